/- Shades: CheckGuide of the reference. -/
import Derived.Test.YtpjmobpmpghpeaaGreatDoorShdC
namespace Go.Proofs
open Go.RowKit
set_option maxHeartbeats 16000000
set_option maxRecDepth 1000000
structure GuideOk (ws : Cel) (l : List TabT) : Prop where
  wt : ColOk ws 1 100
  pos : 0 < l.length
  few : l.length ≤ 32
  at_ : ∀ (i : Nat) (t : TabT), l[i]? = some t → NameOk t.1 ∧ ColOk t.2 0 255
  nd : ∀ (i j : Nat) (s t : TabT), j < i → l[j]? = some s → l[i]? = some t → s.1 ≠ t.1
structure PreG (l : List TabT) (k : Nat) : Prop where
  at_ : ∀ (i : Nat) (t : TabT), i < k → l[i]? = some t → NameOk t.1 ∧ ColOk t.2 0 255
  nd : ∀ (i j : Nat) (s t : TabT), j < i → i < k → l[j]? = some s → l[i]? = some t → s.1 ≠ t.1
theorem preG_step {l : List TabT} {k : Nat} {t : TabT} (h : PreG l k) (ht : l[k]? = some t) (hn : NameOk t.1) (hc : ColOk t.2 0 255) (hd : ∀ j s, j < k → l[j]? = some s → s.1 ≠ t.1) : PreG l (k + 1) := by
  refine ⟨fun i u hi hu => ?_, fun i j s u hji hi hs hu => ?_⟩
  · rcases Nat.lt_or_eq_of_le (Nat.le_of_lt_succ hi) with h1 | rfl
    · exact h.at_ i u h1 hu
    · obtain rfl := Option.some.inj (ht.symm.trans hu)
      exact ⟨hn, hc⟩
  · rcases Nat.lt_or_eq_of_le (Nat.le_of_lt_succ hi) with h1 | rfl
    · exact h.nd i j s u hji h1 hs hu
    · obtain rfl := Option.some.inj (ht.symm.trans hu)
      exact hd j s hji hs
def GuideE (ws : Cel) (l : List TabT) (w : World) (e : Ending) (w' : World) : Prop := ∃ n : Int, e = .returned (.int .i64 n) ∧ 0 ≤ n ∧ n ≤ 12 ∧ (n = 0 → GuideOk ws l) ∧ Below w.heap.size w w'
theorem guideE_no {ws : Cel} {l : List TabT} {w w' : World} (n : Int) (h : 1 ≤ n ∧ n ≤ 12) (hb : Below w.heap.size w w') : GuideE ws l w (.returned (.int .i64 n)) w' := ⟨n, rfl, by omega, h.2, fun e => absurd e (by omega), hb⟩
theorem refGuide_ok (ws : Cel) (v : Value) (l : List TabT) (w : World) (hl : SlT w v l) :
    Calls Tryz.prog 24 #[gdV ws v] w (GuideE ws l w) := by
  have q := sumE_ok ws 1 100
  have h1 := within_cases ws.1 1 100
  have h2 := within_cases ws.2.1 1 100
  have h3 := within_cases ws.2.2 1 100
  have e1 := wrap64_small (n := withinI ws.1 1 100 + withinI ws.2.1 1 100) (by omega)
  have e2 := wrap64_small (n := withinI ws.1 1 100 + withinI ws.2.1 1 100 + withinI ws.2.2 1 100) (by omega)
  have e3 := wrap_small (n := withinI ws.1 1 100 + withinI ws.2.1 1 100) (by omega)
  have e4 := wrap_small (n := withinI ws.1 1 100 + withinI ws.2.1 1 100 + withinI ws.2.2 1 100) (by omega)
  unfold sumE at q
  clear h1 h2 h3
  obtain ⟨A, cap, rfl⟩ := hl.form
  obtain ⟨x, y, z⟩ := ws
  unfold gdV
  dsimp only at e1 e2 e3 e4 q ⊢
  obtain ⟨W0, hW⟩ : ∃ W0, W0 = (w.alloc (.cells #[.int .i64 x, .int .i64 y, .int .i64 z, .slice A l.length cap] 53)) := ⟨_, rfl⟩
  have hB0 : Below w.heap.size w W0 := by subst hW; exact (Below.refl _ _).alloc (Nat.le_refl _) _
  have hlt : w.heap.size < W0.heap.size := by subst hW; simp
  have c0 : W0.cell? ⟨w.heap.size, 0, none⟩ = some (.int .i64 x) := by subst hW; go_simp
  have c1 : W0.cell? ⟨w.heap.size, 1, none⟩ = some (.int .i64 y) := by subst hW; go_simp
  have c2 : W0.cell? ⟨w.heap.size, 2, none⟩ = some (.int .i64 z) := by subst hW; go_simp
  have c3 : W0.cell? ⟨w.heap.size, 3, none⟩ = some (.slice A l.length cap) := by subst hW; go_simp
  have hl0 := hl.below hB0
  clear hl
  go_enter Tryz.func24, Tryz.ntmps24
  go_wp2_with fail
  rw [← hW]
  clear hW
  go_quiet (exact Calls.quiet_of_same (refRange9_ok _ _ _ _))
  clear e1 e2 e3 e4 c0 c1 c2
  generalize withinI x 1 100 + withinI y 1 100 + withinI z 1 100 = r at q ⊢
  rename Nat => q1
  have hB1 := below_drewN hB0 q1
  by_cases h0 : r = 0
  · subst h0
    have hwt := q.1 rfl
    clear q
    go_wp2
    all_goals (try (go_ret; exact guideE_no _ (by omega) hB1))
    have hp0 : 0 < l.length := by
      have h : ((l.length : Int) == 0) = false := by assumption
      simp only [beq_eq_false_iff_ne, ne_eq] at h
      omega
    have hf0 : l.length ≤ 32 := by
      have h : (l.length : Int) ≤ 32 := by assumption
      omega
    have hx : ((l.length : Int) == 0) = false := by assumption
    have hy : ((0 : Int) != 0) = false := rfl
    simp only [hx, hy]
    clear hx hy
    go_loopw [3] (fun i wr => ∃ k : Nat, k ≤ l.length ∧ i = .int .i64 k ∧ PreG l k ∧ Below W0.heap.size W0 wr) (fun i _ => l.length - (intOf i).toNat)
    case atStart => exact ⟨0, Nat.zero_le _, rfl, ⟨fun i t h _ => absurd h (Nat.not_lt_zero i), fun i j s t _ h _ _ => absurd h (Nat.not_lt_zero i)⟩, below_drewN (Below.refl _ _) _⟩
    case round =>
      obtain ⟨k, hk, rfl, hp, hX⟩ := hrel
      have hBw := hB0.trans (hX.mono hB0.size)
      have kc : ∀ V, Below W0.heap.size W0 V → V.cell? ⟨w.heap.size, 3, none⟩ = some (.slice A l.length cap) := fun V h => (h.cell (p := ⟨_, _, none⟩) hlt).trans c3
      have c3 := kc _ hX
      rcases Nat.lt_or_eq_of_le hk with hkn | rfl
      · obtain ⟨b, o, s, x1, y1, z1, rfl, -, hb, hc, r0, r1, r2, r3⟩ := (hl0.below hX).cells hkn
        have hi0 : (0 : Int) ≤ k := by omega
        have hi1 : (k : Int) < l.length := by omega
        go_wp2_with (go_at_call 15; refine (refName_ok _ _).mono ?_; rintro e w2 ⟨rn, rfl, hrn, rfl⟩)
        all_goals (try (go_ret; exact guideE_no 8 (by omega) hBw))
        have hrt : (!rn) = false := by assumption
        obtain rfl : rn = true := by simpa using hrt
        have hnm := hrn rfl
        simp only [Bool.not_true]
        clear hrn hrt r0 r1 r2 r3 hb
        go_loopw [4] (fun j wr2 => ∃ m : Nat, m ≤ k ∧ j = .int .i64 m ∧ (∀ (i : Nat) (s' : TabT), i < m → l[i]? = some s' → s'.1 ≠ s) ∧ Below W0.heap.size W0 wr2) (fun j _ => k - (intOf j).toNat)
        case atStart => exact ⟨0, Nat.zero_le _, rfl, fun i s' h _ => absurd h (Nat.not_lt_zero i), hX⟩
        case round =>
          obtain ⟨m, hm, rfl, hd, hY⟩ := hrel
          have hBy := hB0.trans (hY.mono hB0.size)
          have c3 := kc _ hY
          obtain ⟨b, o, s2, x2, y2, z2, e5, -, hb, hc2, r0, r1, r2, r3⟩ := (hl0.below hY).cells hkn
          obtain ⟨rfl, rfl⟩ : _ = b ∧ _ = o := by injection e5 with e6; injection e6 with e7 e8; exact ⟨e7, e8⟩
          obtain ⟨rfl, rfl, rfl, rfl⟩ : s = s2 ∧ x1 = x2 ∧ y1 = y2 ∧ z1 = z2 := by have := hc.symm.trans hc2; simpa using this
          rcases Nat.lt_or_eq_of_le hm with hmn | rfl
          · obtain ⟨b', o', s', x', y', z', e5, -, hb', hc', p0, p1, p2, p3⟩ := (hl0.below hY).cells (k := m) (by omega)
            obtain ⟨rfl, rfl⟩ : _ = b' ∧ _ = o' := by injection e5 with e6; injection e6 with e7 e8; exact ⟨e7, e8⟩
            have hj0 : (0 : Int) ≤ m := by omega
            have hj1 : (m : Int) < k := by omega
            have hj2 : (m : Int) < l.length := by omega
            go_wp2_with fail
            go_quiet (fail)
            cases hss : (s'.toList == s.toList) with
            | true =>
              go_wp2
              go_ret
              exact guideE_no 9 (by omega) (below_drewN hBy _)
            | false =>
              go_wp2
              go_roundw
              case rel =>
                refine ⟨m + 1, hmn, by simp, fun i u hi hu => ?_, below_drewN hY _⟩
                rcases Nat.lt_or_eq_of_le (Nat.le_of_lt_succ hi) with h1 | rfl
                · exact hd i u h1 hu
                · obtain rfl := Option.some.inj (hc'.symm.trans hu)
                  rintro rfl
                  simp at hss
              case measure => simp [intOf]; omega
          · have hcol := fun W => refColour_ok (x1, y1, z1) W
            have hsum := sumE_ok (x1, y1, z1) 0 255
            have hce : (colE (x1, y1, z1) = 0 ∧ ColOk (x1, y1, z1) 0 255) ∨ colE (x1, y1, z1) = 3 := by
              unfold colE
              by_cases h : sumE (x1, y1, z1) 0 255 = 0
              · exact .inl ⟨by rw [if_neg (by omega)], hsum.1 h⟩
              · exact .inr (by rw [if_pos h])
            clear hsum
            unfold colV at hcol
            dsimp only at hcol
            generalize colE (x1, y1, z1) = ce at hcol hce
            rcases hce with ⟨rfl, hok⟩ | rfl
            · go_wp2_with (go_at_call 25; refine (hcol _).mono ?_; rintro e w4 ⟨rfl, hB4⟩)
              go_roundw
              case rel => exact ⟨_, hkn, by simp, preG_step hp hc hnm hok hd, hY.trans (hB4.mono hY.size)⟩
              case measure => simp [intOf]; omega
            · go_wp2_with (go_at_call 25; refine (hcol _).mono ?_; rintro e w4 ⟨rfl, hB4⟩)
              go_ret
              exact guideE_no 3 (by omega) (hBy.trans (hB4.mono hBy.size))
      · go_wp2
        go_ret
        exact ⟨0, rfl, by omega, by omega, fun _ => ⟨hwt, hp0, hf0, fun i t h => hp.at_ i t (List.getElem?_eq_some_iff.1 h).1 h, fun i j s t hji hs ht => hp.nd i j s t hji (List.getElem?_eq_some_iff.1 ht).1 hs ht⟩, hBw⟩
  · clear q
    go_wp2
    go_ret
    exact guideE_no _ (by decide) hB1
end Go.Proofs
