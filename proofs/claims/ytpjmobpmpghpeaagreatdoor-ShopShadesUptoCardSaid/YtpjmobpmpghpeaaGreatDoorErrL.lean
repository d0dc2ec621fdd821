import Derived.Test.YtpjmobpmpghpeaaGreatDoorErrA
section
/- Shades, exactly: CheckGuide of the reference. -/
namespace Go.Proofs
open Go.RowKit Go.MapKept
set_option maxHeartbeats 16000000
set_option maxRecDepth 1000000
theorem refGuideX_ok (ws : Cel) (v : Value) (l : List TabT) (w : World) (hl : SlT w v l) :
    Calls Tryz.prog 24 #[gdV ws v] w fun e w' => ∃ n, e = .returned (.int .i64 n) ∧ GuideX ws l n ∧ Below w.heap.size w w' := by
  have q := sumE_ok ws 1 100
  have h1 := within_cases ws.1 1 100
  have h2 := within_cases ws.2.1 1 100
  have h3 := within_cases ws.2.2 1 100
  have e1 := wrap64_small (n := withinI ws.1 1 100 + withinI ws.2.1 1 100) (by omega)
  have e2 := wrap64_small (n := withinI ws.1 1 100 + withinI ws.2.1 1 100 + withinI ws.2.2 1 100) (by omega)
  have e3 := wrap_small (n := withinI ws.1 1 100 + withinI ws.2.1 1 100) (by omega)
  have e4 := wrap_small (n := withinI ws.1 1 100 + withinI ws.2.1 1 100 + withinI ws.2.2 1 100) (by omega)
  have HG3 : RowKit.Hid (sumE ws 1 100 ≠ 0 → GuideX ws l 3) := Lib.hid fun h => .inl ⟨h, rfl⟩
  have HG0 : RowKit.Hid (sumE ws 1 100 = 0 → l.length = 0 → GuideX ws l 12) := Lib.hid fun h h2 => .inr ⟨h, .inl ⟨h2, rfl⟩⟩
  have HG5 : RowKit.Hid (sumE ws 1 100 = 0 → 32 < l.length → GuideX ws l 5) := Lib.hid fun h h2 => .inr ⟨h, .inr ⟨by omega, .inl ⟨h2, rfl⟩⟩⟩
  have HG : RowKit.Hid (∀ n, sumE ws 1 100 = 0 → 0 < l.length → l.length ≤ 32 → ScanE l (tabE l) n → GuideX ws l n) := Lib.hid fun n h h2 h3 h4 => .inr ⟨h, .inr ⟨h2, .inr ⟨h3, h4⟩⟩⟩
  generalize GuideX ws l = GX at HG3 HG0 HG5 HG ⊢
  unfold sumE at q HG3 HG0 HG5 HG
  clear h1 h2 h3
  obtain ⟨A, cap, rfl⟩ := hl.form
  obtain ⟨x, y, z⟩ := ws
  unfold gdV
  dsimp only at e1 e2 e3 e4 q HG3 HG0 HG5 HG ⊢
  obtain ⟨W0, hW⟩ : ∃ W0, W0 = (w.alloc (.cells #[.int .i64 x, .int .i64 y, .int .i64 z, .slice A l.length cap] 53)) := ⟨_, rfl⟩
  have hB0 : Below w.heap.size w W0 := by subst hW; exact (Below.refl _ _).alloc (Nat.le_refl _) _
  have hlt : w.heap.size < W0.heap.size := by subst hW; simp
  have c0 : W0.cell? ⟨w.heap.size, 0, none⟩ = some (.int .i64 x) := by subst hW; go_simp
  have c1 : W0.cell? ⟨w.heap.size, 1, none⟩ = some (.int .i64 y) := by subst hW; go_simp
  have c2 : W0.cell? ⟨w.heap.size, 2, none⟩ = some (.int .i64 z) := by subst hW; go_simp
  have c3 : W0.cell? ⟨w.heap.size, 3, none⟩ = some (.slice A l.length cap) := by subst hW; go_simp
  have hl0 := hl.below hB0
  clear hl
  go_enter Tryz.func24, Tryz.ntmps24
  go_wp2_with fail
  rw [← hW]
  clear hW
  go_quiet (exact Calls.quiet_of_same (refRange9_ok _ _ _ _))
  clear e1 e2 e3 e4 c0 c1 c2
  generalize withinI x 1 100 + withinI y 1 100 + withinI z 1 100 = r at q HG3 HG0 HG5 HG ⊢
  rename Nat => q1
  have hB1 := below_drewN hB0 q1
  by_cases h0 : r = 0
  · subst h0
    have hwt := q.1 rfl
    clear q
    have HI0 := Lib.hid (HG0.out rfl)
    have HI5 := Lib.hid (HG5.out rfl)
    have HI := Lib.hid (fun n => HG.out n rfl)
    clear HG HG0 HG3 HG5
    go_wp2
    all_goals (try (go_ret; first
      | exact ⟨_, rfl, HI0.out (by have h : ((l.length : Int) == 0) = true := ‹_›; simpa using h), hB1⟩
      | exact ⟨_, rfl, HI5.out (by have h : (32 : Int) < l.length := ‹_›; omega), hB1⟩))
    have hp0 : 0 < l.length := by
      have h : ((l.length : Int) == 0) = false := by assumption
      simp only [beq_eq_false_iff_ne, ne_eq] at h
      omega
    have hf0 : l.length ≤ 32 := by
      have h : (l.length : Int) ≤ 32 := by assumption
      omega
    have hx : ((l.length : Int) == 0) = false := by assumption
    have hy : ((0 : Int) != 0) = false := rfl
    have HGn : RowKit.Hid (∀ n, ScanE l (tabE l) n → GX n) := Lib.hid fun n h => HI.out n hp0 hf0 h
    simp only [hx, hy]
    clear hx hy HI HI0 HI5
    go_loopw [3] (fun i wr => ∃ k : Nat, k ≤ l.length ∧ i = .int .i64 k ∧ PreE l (tabE l) k ∧ Below W0.heap.size W0 wr) (fun i _ => l.length - (intOf i).toNat)
    case atStart => exact ⟨0, Nat.zero_le _, rfl, PreE.zero _ _, below_drewN (Below.refl _ _) _⟩
    case round =>
      obtain ⟨k, hk, rfl, hp, hX⟩ := hrel
      have hBw := hB0.trans (hX.mono hB0.size)
      have kc : ∀ V, Below W0.heap.size W0 V → V.cell? ⟨w.heap.size, 3, none⟩ = some (.slice A l.length cap) := fun V h => (h.cell (p := ⟨_, _, none⟩) hlt).trans c3
      have c3 := kc _ hX
      rcases Nat.lt_or_eq_of_le hk with hkn | rfl
      · obtain ⟨b, o, s, x1, y1, z1, rfl, -, hb, hc, r0, r1, r2, r3⟩ := (hl0.below hX).cells hkn
        have hi0 : (0 : Int) ≤ k := by omega
        have hi1 : (k : Int) < l.length := by omega
        have hcs := tabE_cases l k (s, x1, y1, z1)
        dsimp only at hcs
        have hne : nameE s = if nameB s then 0 else 8 := rfl
        have kN := fun W => refNameX_ok s W
        generalize nameB s = nb at kN hne
        cases nb with
        | false =>
          have ht8 : tabE l k (s, x1, y1, z1) = 8 := by
            simp only [Bool.false_eq_true, if_false] at hne
            omega
          have HR := Lib.hid (HGn.out 8 (by have := hp.bad hc (by rw [ht8]; decide); rwa [ht8] at this))
          clear hcs hne ht8 hp
          go_wp2_with (go_at_call 15; refine (kN _).mono ?_; rintro e w2 ⟨rfl, rfl⟩)
          go_ret
          exact ⟨8, rfl, HR.out, hBw⟩
        | true =>
        simp only [if_true] at hne
        have HCS := Lib.hid hcs
        have HNE := Lib.hid hne
        clear hcs hne
        go_wp2_with (go_at_call 15; refine (kN _).mono ?_; rintro e w2 ⟨rfl, rfl⟩)
        clear r0 r1 r2 r3 hb kN
        go_loopw [4] (fun j wr2 => ∃ m : Nat, m ≤ k ∧ j = .int .i64 m ∧ (∀ (i : Nat) (s' : TabT), i < m → l[i]? = some s' → s'.1 ≠ s) ∧ Below W0.heap.size W0 wr2) (fun j _ => k - (intOf j).toNat)
        case atStart => exact ⟨0, Nat.zero_le _, rfl, fun i s' h _ => absurd h (Nat.not_lt_zero i), hX⟩
        case round =>
          obtain ⟨m, hm, rfl, hd, hY⟩ := hrel
          have hBy := hB0.trans (hY.mono hB0.size)
          have c3 := kc _ hY
          obtain ⟨b, o, s2, x2, y2, z2, e5, -, hb, hc2, r0, r1, r2, r3⟩ := (hl0.below hY).cells hkn
          obtain ⟨rfl, rfl⟩ : _ = b ∧ _ = o := by injection e5 with e6; injection e6 with e7 e8; exact ⟨e7, e8⟩
          obtain ⟨rfl, rfl, rfl, rfl⟩ : s = s2 ∧ x1 = x2 ∧ y1 = y2 ∧ z1 = z2 := by have := hc.symm.trans hc2; simpa using this
          rcases Nat.lt_or_eq_of_le hm with hmn | rfl
          · obtain ⟨b', o', s', x', y', z', e5, -, hb', hc', p0, p1, p2, p3⟩ := (hl0.below hY).cells (k := m) (by omega)
            obtain ⟨rfl, rfl⟩ : _ = b' ∧ _ = o' := by injection e5 with e6; injection e6 with e7 e8; exact ⟨e7, e8⟩
            have hj0 : (0 : Int) ≤ m := by omega
            have hj1 : (m : Int) < k := by omega
            have hj2 : (m : Int) < l.length := by omega
            go_wp2_with fail
            go_quiet (fail)
            cases hss : (s'.toList == s.toList) with
            | true =>
              have hsame : s' = s := by
                apply Classical.byContradiction
                intro h
                rw [bytes_ne h] at hss
                cases hss
              have ht9 : tabE l k (s, x1, y1, z1) = 9 := by
                have h1 := twiceE_yes (s := s) (l := (l.take k).map (·.1)) (mem_take.2 ⟨m, _, hmn, hc', hsame⟩)
                have h2 := HCS.out
                have h3 := HNE.out
                omega
              have HR := Lib.hid (HGn.out 9 (by have := hp.bad hc (by rw [ht9]; decide); rwa [ht9] at this))
              clear ht9 hsame hp hd
              go_wp2
              go_ret
              exact ⟨9, rfl, HR.out, below_drewN hBy _⟩
            | false =>
              go_wp2
              go_roundw
              case rel =>
                refine ⟨m + 1, hmn, by simp, fun i u hi hu => ?_, below_drewN hY _⟩
                rcases Nat.lt_or_eq_of_le (Nat.le_of_lt_succ hi) with h1 | rfl
                · exact hd i u h1 hu
                · obtain rfl := Option.some.inj (hc'.symm.trans hu)
                  rintro rfl
                  simp at hss
              case measure => simp [intOf]; omega
          · have hcol := fun W => refColour_ok (x1, y1, z1) W
            have htc : tabE l m (s, x1, y1, z1) = colE (x1, y1, z1) := by
              have h1 := twiceE_no (s := s) (l := (l.take m).map (·.1)) (fun h => by
                obtain ⟨j, u, h4, h5, h6⟩ := mem_take.1 h
                exact hd j u h4 h5 h6)
              have h2 := HCS.out
              have h3 := HNE.out
              omega
            have hce := colE_or (x1, y1, z1)
            unfold colV at hcol
            dsimp only at hcol
            generalize colE (x1, y1, z1) = ce at hcol hce htc
            have HTC := Lib.hid htc
            have HP := Lib.hid hp
            clear htc hp hd
            rcases hce with rfl | rfl
            · go_wp2_with (go_at_call 25; refine (hcol _).mono ?_; rintro e w4 ⟨rfl, hB4⟩)
              go_roundw
              case rel => exact ⟨_, hkn, by simp, HP.out.step hc HTC.out, hY.trans (hB4.mono hY.size)⟩
              case measure => simp [intOf]; omega
            · go_wp2_with (go_at_call 25; refine (hcol _).mono ?_; rintro e w4 ⟨rfl, hB4⟩)
              go_ret
              exact ⟨3, rfl, HGn.out 3 (by have := HP.out.bad hc (by rw [HTC.out]; decide); rwa [HTC.out] at this), hBy.trans (hB4.mono hBy.size)⟩
      · have HR := Lib.hid (HGn.out 0 (hp.done (Nat.le_refl _)))
        clear hp
        go_wp2
        go_ret
        exact ⟨0, rfl, HR.out, hBw⟩
  · have HR := Lib.hid (HG3.out h0)
    clear q HG HG0 HG3 HG5
    go_wp2
    go_ret
    exact ⟨3, rfl, HR.out, hB1⟩
end Go.Proofs
end

section
/- Laws of the shop: the first of some errors, an error if a condition holds, and that a number and an error are the wanted ones. -/
namespace Go.Proofs
open Go.RowKit Go.MapKept
set_option maxHeartbeats 16000000
set_option maxRecDepth 1000000
theorem lawFirst3 (a b c : Int) (blk cap : Nat) (w : World) (h0 : w.cell? ⟨blk, 0, none⟩ = some (.int .i64 a)) (h1 : w.cell? ⟨blk, 1, none⟩ = some (.int .i64 b)) (h2 : w.cell? ⟨blk, 2, none⟩ = some (.int .i64 c)) :
    Calls Tryz.prog 13 #[.slice (some ⟨blk, 0, none⟩) 3 cap] w fun e w' => e = .returned (.int .i64 (or3 a b c)) ∧ w' = w := by
  go_enter Tryz.func13, Tryz.ntmps13
  go_wp2
  refine wp_loop_rounds 4 ?_
  rw [rounds_succ]
  go_wp2
  all_goals (try (rw [rounds_succ]; go_wp2))
  all_goals (try (rw [rounds_succ]; go_wp2))
  all_goals (try (rw [rounds_succ]; go_wp2))
  all_goals go_ret
  all_goals (refine ⟨?_, rfl⟩; unfold or3; simp_all)
theorem lawFirst2 (a b : Int) (blk cap : Nat) (w : World) (h0 : w.cell? ⟨blk, 0, none⟩ = some (.int .i64 a)) (h1 : w.cell? ⟨blk, 1, none⟩ = some (.int .i64 b)) :
    Calls Tryz.prog 13 #[.slice (some ⟨blk, 0, none⟩) 2 cap] w fun e w' => e = .returned (.int .i64 (or3 a b 0)) ∧ w' = w := by
  go_enter Tryz.func13, Tryz.ntmps13
  go_wp2
  refine wp_loop_rounds 3 ?_
  rw [rounds_succ]
  go_wp2
  all_goals (try (rw [rounds_succ]; go_wp2))
  all_goals (try (rw [rounds_succ]; go_wp2))
  all_goals go_ret
  all_goals (refine ⟨?_, rfl⟩; unfold or3; simp_all)
theorem lawWhen_ok (b : Bool) (n : Int) (w : World) : Calls Tryz.prog 14 #[.bool b, .int .i64 n] w fun e w' => e = .returned (.int .i64 (if b then n else 0)) ∧ w' = w := by
  cases b
  · go_enter Tryz.func14, Tryz.ntmps14
    go_wp2
    go_ret
    exact ⟨rfl, rfl⟩
  · go_enter Tryz.func14, Tryz.ntmps14
    go_wp2
    go_ret
    exact ⟨rfl, rfl⟩
theorem lawInt_ok (d e : Int) (h : e = 0 ∨ d = 0) (w : World) : Calls Tryz.prog 30 #[.int .i64 d, .int .i64 e, .int .i64 d, .int .i64 e] w fun e w' => e = .returned (.bool true) ∧ w' = w := by
  by_cases he : e = 0
  · subst he
    clear h
    go_enter Tryz.func30, Tryz.ntmps30
    go_wp2
    all_goals (go_ret; exact ⟨rfl, rfl⟩)
  · have hd : d = 0 := h.resolve_left he
    subst hd
    clear h
    have h1 : (e == 0) = false := by simpa using he
    have h2 : (e != 0) = true := by simpa using he
    clear he
    go_enter Tryz.func30, Tryz.ntmps30
    go_wp2
    all_goals (go_ret; exact ⟨rfl, rfl⟩)
/-- The tabs that are few, or too many, and not too many to be read. -/
def ShortG (l : List TabT) (n : Nat) : Prop := l.length ≤ n ∨ 32 < l.length
def ShortS (l : List TabT) (w : World) (e : Ending) (w' : World) : Prop := (∃ r : Bool, e = .returned (.bool r) ∧ (r = true → ShortG l 6)) ∧ Below w.heap.size w w'
theorem shortX_mk {l : List TabT} {w w' : World} (r : Bool) (h : r = true → ShortG l 6) (hb : Below w.heap.size w w') : ShortS l w (.returned (.bool r)) w' := ⟨⟨r, rfl, h⟩, hb⟩
theorem refShortX_ok (ws : Cel) (v : Value) (l : List TabT) (w : World) (hl : SlT w v l) :
    Calls Tryz.prog 20 #[gdV ws v, .int .i64 6] w (ShortS l w) := by
  obtain ⟨A, cap, rfl⟩ := hl.form
  obtain ⟨x, y, z⟩ := ws
  unfold gdV
  dsimp only
  have hB0 : Below w.heap.size w (w.alloc (.cells #[.int .i64 x, .int .i64 y, .int .i64 z, .slice A l.length cap] 53)) := (Below.refl _ _).alloc (Nat.le_refl _) _
  have c3 : (w.alloc (.cells #[.int .i64 x, .int .i64 y, .int .i64 z, .slice A l.length cap] 53)).cell? ⟨w.heap.size, 3, none⟩ = some (.slice A l.length cap) := by go_simp
  have hl0 := hl.below hB0
  clear hl
  go_enter Tryz.func20, Tryz.ntmps20
  go_wp2
  all_goals (try (go_ret; exact shortX_mk false (fun h => by cases h) hB0))
  all_goals (
    have hS : ShortG l 6 := by first | exact .inl (by omega) | exact .inr (by omega)
    have HS := Lib.hid hS
    clear hS
    go_loopw [5] (fun i wr => ∃ k : Nat, k ≤ l.length ∧ i = .int .i64 k ∧ wr.cell? ⟨w.heap.size, 3, none⟩ = some (.slice A l.length cap) ∧ SlT wr (.slice A l.length cap) l ∧ Below w.heap.size w wr) (fun i _ => l.length - (intOf i).toNat)
    case atStart => exact ⟨0, Nat.zero_le _, rfl, c3, hl0, hB0⟩
    case round =>
      clear c3 hl0 hB0
      obtain ⟨k, hk, rfl, c3, hl0, hB0⟩ := hrel
      rcases Nat.lt_or_eq_of_le hk with hkn | rfl
      · obtain ⟨b, o, s, x1, y1, z1, rfl, -, hb, hc, r0, r1, r2, r3⟩ := hl0.cells hkn
        have hi0 : (0 : Int) ≤ k := by omega
        have hi1 : (k : Int) < l.length := by omega
        go_wp2
        all_goals (first
          | (go_ret; exact shortX_mk false (fun h => by cases h) hB0)
          | (refine ⟨⟨k + 1, hkn, by simp_all, c3, hl0, hB0⟩, by simp_all [intOf] <;> omega⟩))
      · go_wp2
        go_ret
        exact shortX_mk true (fun _ => HS.out) hB0)
end Go.Proofs
end
