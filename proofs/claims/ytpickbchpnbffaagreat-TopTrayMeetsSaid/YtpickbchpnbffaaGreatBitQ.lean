import Derived.Test.YtpickbchpnbffaaGreatKeep1
import Derived.Test.YtpickbchpnbffaaGreatMovedX
import Derived.Test.YtpickbchpnbffaaGreatMir1
import Derived.Test.YtpickbchpnbffaaGreatBoundR
import Derived.Test.YtpickbchpnbffaaGreatG2s
import Derived.Test.YtpickbchpnbffaaGreatShiftZ
section
/- The reference's check of a bite: what it says yes to. -/
namespace Go.Proofs
open Go.RowKit
set_option maxHeartbeats 16000000
set_option maxRecDepth 1000000
theorem refSize_ok (n : Int) (w : World) (h : -9000000 ≤ n ∧ n ≤ 9000000) : Calls Tryz.prog 96 #[.int .i64 n] w fun e w' => e = .returned (.int .i64 (max n (0 - n))) ∧ w' = w := by
  have w1 := wrapS (n := 0 - n) (by omega)
  have w2 : wrap64 (-n) = -n := by unfold wrap64; omega
  clear h
  go_enter Tryz.func96, Tryz.ntmps96
  go_wp2
  all_goals go_ret
  all_goals first
    | exact ⟨rfl, rfl⟩
    | (refine ⟨?_, rfl⟩; simp; done)
    | (refine ⟨?_, rfl⟩; simp; omega)
def stepB (a b : Cel) : Bool := decide (max (a.1 - b.1) (0 - (a.1 - b.1)) ≤ 1) && (decide (max (a.2.1 - b.2.1) (0 - (a.2.1 - b.2.1)) ≤ 1) && decide (max (a.2.2 - b.2.2) (0 - (a.2.2 - b.2.2)) ≤ 1))
theorem refStep_ok (a b : Cel) (w : World) (ha : Near a 1000) (hb : Near b 1000) :
    Calls Tryz.prog 79 #[cellV a, cellV b] w fun e w' => e = .returned (.bool (stepB a b)) ∧ Below w.heap.size w w' := by
  obtain ⟨x, y, z⟩ := a
  obtain ⟨x', y', z'⟩ := b
  unfold Near at ha hb
  unfold stepB cellV
  dsimp only at ha hb ⊢
  have w1 := wrapS (n := x - x') (by omega)
  have w2 := wrapS (n := y - y') (by omega)
  have w3 := wrapS (n := z - z') (by omega)
  have s1 := fun W => refSize_ok (x - x') W (by omega)
  have s2 := fun W => refSize_ok (y - y') W (by omega)
  have s3 := fun W => refSize_ok (z - z') W (by omega)
  have hB : Below w.heap.size w ((w.alloc (.cells #[.int .i64 x, .int .i64 y, .int .i64 z] 34)).alloc (.cells #[.int .i64 x', .int .i64 y', .int .i64 z'] 34)) := ((Below.refl _ _).alloc (Nat.le_refl _) _).alloc (by simp) _
  clear ha hb
  generalize max (x - x') (0 - (x - x')) = m1 at s1 ⊢
  generalize max (y - y') (0 - (y - y')) = m2 at s2 ⊢
  generalize max (z - z') (0 - (z - z')) = m3 at s3 ⊢
  by_cases h1 : m1 ≤ 1
  · rw [decide_eq_true h1]
    by_cases h2 : m2 ≤ 1
    · rw [decide_eq_true h2]
      by_cases h3 : m3 ≤ 1
      · rw [decide_eq_true h3]
        go_enter Tryz.func79, Tryz.ntmps79
        go_wp2_with (go_at_call 96; (first | with_reducible refine (s1 _).mono ?_ | with_reducible refine (s2 _).mono ?_ | with_reducible refine (s3 _).mono ?_); rintro e w4 ⟨rfl, rfl⟩)
        go_ret
        exact ⟨by simp, hB⟩
      · rw [decide_eq_false h3]
        go_enter Tryz.func79, Tryz.ntmps79
        go_wp2_with (go_at_call 96; (first | with_reducible refine (s1 _).mono ?_ | with_reducible refine (s2 _).mono ?_ | with_reducible refine (s3 _).mono ?_); rintro e w4 ⟨rfl, rfl⟩)
        go_ret
        exact ⟨by simp; omega, hB⟩
    · rw [decide_eq_false h2]
      go_enter Tryz.func79, Tryz.ntmps79
      go_wp2_with (go_at_call 96; (first | with_reducible refine (s1 _).mono ?_ | with_reducible refine (s2 _).mono ?_); rintro e w4 ⟨rfl, rfl⟩)
      go_ret
      exact ⟨by simp, hB⟩
  · rw [decide_eq_false h1]
    go_enter Tryz.func79, Tryz.ntmps79
    go_wp2_with (go_at_call 96; with_reducible refine (s1 _).mono ?_; rintro e w4 ⟨rfl, rfl⟩)
    go_ret
    exact ⟨by simp, hB⟩
/-- What is known of a path up to a place. -/
def PrePath (p : List Cel) (k : Nat) : Prop := (∀ j c, j < k → p[j]? = some c → Near c 1000) ∧ ∀ j a b, j + 1 < k → p[j]? = some a → p[j + 1]? = some b → a ≠ b ∧ Near (b.1 - a.1, b.2.1 - a.2.1, b.2.2 - a.2.2) 1
theorem prePath_all {p : List Cel} (h : PrePath p p.length) (h0 : 0 < p.length) (h1 : p.length ≤ 256) : PathOk p :=
  ⟨h0, h1, fun c hc => by
    obtain ⟨j, hj⟩ := List.mem_iff_getElem?.1 hc
    exact h.1 j c (List.getElem?_eq_some_iff.1 hj).1 hj, fun i a b ha hb => h.2 i a b (List.getElem?_eq_some_iff.1 hb).1 ha hb⟩
theorem prePath_step {p : List Cel} {k : Nat} {c : Cel} (h : PrePath p k) (hc : p[k]? = some c) (hn : Near c 1000) (hs : ∀ a, 0 < k → p[k - 1]? = some a → a ≠ c ∧ stepB c a = true) : PrePath p (k + 1) := by
  refine ⟨fun j d hj hd => ?_, fun j a b hj ha hb => ?_⟩
  · rcases Nat.lt_or_eq_of_le (Nat.le_of_lt_succ hj) with hj | rfl
    · exact h.1 j d hj hd
    · rw [hc] at hd
      cases hd
      exact hn
  · rcases Nat.lt_or_eq_of_le (Nat.le_of_lt_succ hj) with hj | hj
    · exact h.2 j a b hj ha hb
    · have hk : j = k - 1 := by omega
      rw [hj, hc] at hb
      cases hb
      obtain ⟨h1, h2⟩ := hs a (by omega) (by rw [← hk]; exact ha)
      refine ⟨h1, ?_⟩
      unfold stepB at h2
      simp only [Bool.and_eq_true, decide_eq_true_eq] at h2
      unfold Near
      dsimp only
      omega
theorem refPath_ok (p : List Cel) (v : Value) (w : World) (hl : Sl w v p) (hn : p.length ≤ maxLen) :
    Calls Tryz.prog 58 #[v] w fun e w' => ∃ r : Int, e = .returned (.int .i64 r) ∧ (r = 0 → PathOk p) ∧ Below w.heap.size w w' := by
  unfold maxLen at hn
  obtain ⟨A, cap, rfl⟩ := hl.form
  by_cases h0 : p.length = 0
  · have e0 : ((p.length : Int) == 0) = true := by rw [h0]; rfl
    clear hl hn h0
    go_enter Tryz.func58, Tryz.ntmps58
    go_wp2
    go_ret
    exact ⟨12, rfl, fun h => (by cases h), Below.refl _ _⟩
  have e0 : ((p.length : Int) == 0) = false := by rw [beq_eq_false_iff_ne]; omega
  by_cases h1 : 256 < p.length
  · have e1 : (256 : Int) < p.length := by omega
    clear hl hn h0 h1
    go_enter Tryz.func58, Tryz.ntmps58
    go_wp2
    go_ret
    exact ⟨5, rfl, fun h => (by cases h), Below.refl _ _⟩
  have e1 : ¬ (256 : Int) < p.length := by omega
  have hpre : PrePath p 0 := ⟨fun j c hj => by omega, fun j a b hj => by omega⟩
  go_enter Tryz.func58, Tryz.ntmps58
  go_wp2
  go_loopw [3] (fun i wr => ∃ k : Nat, k ≤ p.length ∧ i = .int .i64 k ∧ PrePath p k ∧ Below w.heap.size w wr) (fun i _ => p.length - (intOf i).toNat)
  case atStart => exact ⟨0, Nat.zero_le _, rfl, hpre, Below.refl _ _⟩
  case round =>
    clear hpre
    obtain ⟨k, hk, rfl, hpre, hBel⟩ := hrel
    rename World => w1
    rcases Nat.lt_or_eq_of_le hk with hkn | rfl
    · obtain ⟨b, o, x, y, z, rfl, -, hb, hc, r0, r1, r2⟩ := hl.cells hkn
      have kR : ∀ V, Below w.heap.size w V → V.cell? ⟨b, o + k * 3, none⟩ = some (.int .i64 x) ∧ V.cell? ⟨b, o + k * 3 + 1, none⟩ = some (.int .i64 y) ∧ V.cell? ⟨b, o + k * 3 + 2, none⟩ = some (.int .i64 z) := fun V h => ⟨(h.cell (p := ⟨b, _, none⟩) hb).trans r0, (h.cell (p := ⟨b, _, none⟩) hb).trans r1, (h.cell (p := ⟨b, _, none⟩) hb).trans r2⟩
      obtain ⟨s0, s1, s2⟩ := kR _ hBel
      have hcell := fun W => refCheckCellG x y z W
      have hi0 : (0 : Int) ≤ k := by omega
      have hi1 : (k : Int) < p.length := by omega
      have wk := wrapS (n := (k : Int) + 1) (by omega)
      have hsz := hBel.size
      cases hbad : badC (x, y, z) with
      | true =>
        rw [hbad, if_pos rfl] at hcell
        clear hl hc hpre kR r0 r1 r2 hbad
        go_wp2_with (go_at_call 78; refine (hcell _).mono ?_; rintro e w2 ⟨rfl, hB2⟩)
        go_ret
        exact ⟨3, rfl, fun h => (by cases h), hBel.trans (hB2.mono hsz)⟩
      | false =>
        have hnc := badC_near.1 hbad
        rw [hbad, if_neg (by decide)] at hcell
        rcases Nat.eq_zero_or_pos k with hkz | hkp
        · have hpre1 := Lib.hid (prePath_step hpre hc hnc (fun a h => by omega))
          have HZ := Lib.hid hkz
          clear hl hc hpre hbad hnc hkz
          go_wp2_with (go_at_call 78; refine (hcell _).mono ?_; rintro e w2 ⟨rfl, hB2⟩)
          have kz : ¬ (0 : Int) < (k : Int) := by have := HZ.out; omega
          have kz1 : ¬ 0 < k := by have := HZ.out; omega
          go_quiet (fail)
          rename Nat => q1
          go_wp2_with fail
          have kz : ¬ (0 : Int) < (k : Int) := by have := HZ.out; omega
          have kz1 : ¬ 0 < k := by have := HZ.out; omega
          go_quiet (fail)
          rename Nat => q2
          go_wp2
          have hb' := hBel.trans (hB2.mono hsz)
          exact ⟨⟨k + 1, hkn, rfl, hpre1.out, ⟨hb'.os, hb'.tape, hb'.output, hb'.size, hb'.block⟩⟩, by simp [intOf]; omega⟩
        · have hkm : k - 1 < p.length := by omega
          obtain ⟨b', o', x', y', z', e1', -, hb', hc', t0, t1, t2⟩ := hl.cells hkm
          obtain ⟨rfl, rfl⟩ : b = b' ∧ o = o' := by
            injection e1' with e1'
            injection e1' with e1' e2 _
            exact ⟨e1', e2⟩
          have hnc' := hpre.1 _ _ (by omega : k - 1 < k) hc'
          have hS := fun W => refStep_ok (x, y, z) (x', y', z') W hnc hnc'
          unfold cellV at hS
          dsimp only at hS
          have heq := fun W => eqCell x y z x' y' z' W
          have kT : ∀ V, Below w.heap.size w V → V.cell? ⟨b, o + (k - 1) * 3, none⟩ = some (.int .i64 x') ∧ V.cell? ⟨b, o + (k - 1) * 3 + 1, none⟩ = some (.int .i64 y') ∧ V.cell? ⟨b, o + (k - 1) * 3 + 2, none⟩ = some (.int .i64 z') := fun V h => ⟨(h.cell (p := ⟨b, _, none⟩) hb).trans t0, (h.cell (p := ⟨b, _, none⟩) hb).trans t1, (h.cell (p := ⟨b, _, none⟩) hb).trans t2⟩
          have wkm := wrapS (n := (k : Int) - 1) (by omega)
          have i0 : (1 : Int) ≤ (k : Int) := by omega
          have i1 : (k : Int) - 1 < p.length := by omega
          have i2 : ((k : Int) - 1).toNat = k - 1 := by omega
          have HK := Lib.hid hkp
          by_cases he : (x, y, z) = (x', y', z')
          · have hbq : (x == x' && (y == y' && z == z')) = true := by simpa using he
            rw [hbq] at heq
            clear hl hc hc' hpre hbad hnc hnc' hbq he hS hkp e1'
            go_wp2_with (go_at_call 78; refine (hcell _).mono ?_; rintro e w2 ⟨rfl, hB2⟩)
            have hX := hBel.trans (hB2.mono hsz)
            obtain ⟨s0, s1, s2⟩ := kR _ hX
            obtain ⟨y0, y1, y2⟩ := kT _ hX
            have kz1 : 0 < k := HK.out
            go_quiet (fail)
            rename Nat => q1
            go_wp2
            go_ret
            exact ⟨9, rfl, fun h => (by cases h), ⟨hX.os, hX.tape, hX.output, hX.size, hX.block⟩⟩
          · have hbq : (x == x' && (y == y' && z == z')) = false := by
              simp only [Bool.and_eq_false_iff, beq_eq_false_iff_ne, ne_eq]
              simp only [Prod.mk.injEq] at he
              omega
            rw [hbq] at heq
            have HP := Lib.hid (fun (h : stepB (x, y, z) (x', y', z') = true) => prePath_step hpre hc hnc (fun a _ ha => by
              rw [hc'] at ha
              cases ha
              exact ⟨fun e => he e.symm, h⟩))
            clear hl hc hc' hpre hbad hnc hnc' hbq he hkp e1'
            generalize stepB (x, y, z) (x', y', z') = sb at hS HP
            go_wp2_with (go_at_call 78; refine (hcell _).mono ?_; rintro e w2 ⟨rfl, hB2⟩)
            have hX := hBel.trans (hB2.mono hsz)
            obtain ⟨s0, s1, s2⟩ := kR _ hX
            obtain ⟨y0, y1, y2⟩ := kT _ hX
            have kz1 : 0 < k := HK.out
            go_quiet (fail)
            rename Nat => q1
            have hX : Below w.heap.size w (w2.drewN q1) := ⟨hX.os, hX.tape, hX.output, hX.size, hX.block⟩
            obtain ⟨s0, s1, s2⟩ := kR _ hX
            obtain ⟨y0, y1, y2⟩ := kT _ hX
            have kz1 : 0 < k := HK.out
            go_wp2_with fail
            have hX : Below w.heap.size w (w2.drewN q1).drew := hX.drew
            have hky := And.intro (kR _ hX) (kT _ hX)
            go_region_held3 (fun w' => (w'.cell? ⟨b, o + k * 3, none⟩ = some (.int .i64 x) ∧ w'.cell? ⟨b, o + k * 3 + 1, none⟩ = some (.int .i64 y) ∧ w'.cell? ⟨b, o + k * 3 + 2, none⟩ = some (.int .i64 z)) ∧ w'.cell? ⟨b, o + (k - 1) * 3, none⟩ = some (.int .i64 x') ∧ w'.cell? ⟨b, o + (k - 1) * 3 + 1, none⟩ = some (.int .i64 y') ∧ w'.cell? ⟨b, o + (k - 1) * 3 + 2, none⟩ = some (.int .i64 z')) (first | exact hky | go_keep)
              (first
                | (go_at_call 79; refine (hS _).mono ?_; rintro e w4 ⟨rfl, hB4⟩; have hX := hX.trans (hB4.mono hX.size); have hky := And.intro (kR _ hX) (kT _ hX)))
            rename_i hHeld
            clear hHeld
            cases sb with
            | true =>
              go_wp2
              exact ⟨⟨k + 1, hkn, rfl, HP.out rfl, hX⟩, by simp [intOf]; omega⟩
            | false =>
              go_wp2
              go_ret
              exact ⟨11, rfl, fun h => (by cases h), hX⟩
    · have HP := Lib.hid hpre
      clear hl hpre
      go_wp2
      go_ret
      exact ⟨0, rfl, fun _ => prePath_all HP.out (by omega) (by omega), hBel⟩
end Go.Proofs
end

section
/- The reference's Few of a bite: what it says yes to. -/
namespace Go.Proofs
open Go.RowKit
set_option maxHeartbeats 16000000
set_option maxRecDepth 1000000
theorem refSet_ok (l : List Cel) (v : Value) (w : World) (hl : Sl w v l) (hn : l.length ≤ maxLen) :
    Calls Tryz.prog 57 #[v] w fun e w' => ∃ r : Int, e = .returned (.int .i64 r) ∧ (r = 0 → chkI l = 0 ∧ 0 < l.length) ∧ Below w.heap.size w w' := by
  have hk := refCheckG l v w hl hn
  obtain ⟨A, cap, rfl⟩ := hl.form
  by_cases h0 : chkI l = 0
  · rw [h0] at hk
    by_cases h1 : l.length = 0
    · have e0 : ((l.length : Int) == 0) = true := by rw [h1]; rfl
      clear hl h0 h1
      go_enter Tryz.func57, Tryz.ntmps57
      go_wp2_with (go_at_call 77; refine hk.mono ?_; rintro e w1 ⟨rfl, hB1⟩)
      go_ret
      exact ⟨12, rfl, fun h => (by cases h), hB1⟩
    · have e0 : ((l.length : Int) == 0) = false := by rw [beq_eq_false_iff_ne]; omega
      have H0 := Lib.hid h0
      have H1 := Lib.hid (show 0 < l.length by omega)
      clear hl h0 h1
      go_enter Tryz.func57, Tryz.ntmps57
      go_wp2_with (go_at_call 77; refine hk.mono ?_; rintro e w1 ⟨rfl, hB1⟩)
      go_ret
      exact ⟨0, rfl, fun _ => ⟨H0.out, H1.out⟩, hB1⟩
  · have hne : (chkI l == 0) = false := by rw [beq_eq_false_iff_ne]; exact h0
    generalize chkI l = r at hk hne h0 ⊢
    have H0 := Lib.hid h0
    clear hl h0
    go_enter Tryz.func57, Tryz.ntmps57
    go_wp2_with (go_at_call 77; refine hk.mono ?_; rintro e w1 ⟨rfl, hB1⟩)
    go_ret
    exact ⟨r, rfl, fun h => absurd h H0.out, hB1⟩
theorem refBite_ok (u l p : List Cel) (vu vl vp : Value) (w : World) (h : BitS w vu vl vp u l p) (lu : u.length ≤ maxLen) (ll : l.length ≤ maxLen) (lp : p.length ≤ maxLen) :
    Calls Tryz.prog 23 #[.agg #[vu, vl, vp]] w fun e w' => ∃ r : Int, e = .returned (.int .i64 r) ∧ (r = 0 → BiteOk u l p) ∧ Below w.heap.size w w' := by
  obtain ⟨U, uc, rfl⟩ := h.su.form
  obtain ⟨A, ac, rfl⟩ := h.sl.form
  obtain ⟨P, pc, rfl⟩ := h.sp.form
  obtain ⟨W0, hW⟩ : ∃ W0, W0 = w.alloc (.cells #[.slice U u.length uc, .slice A l.length ac, .slice P p.length pc] 24) := ⟨_, rfl⟩
  have hB0 : Below w.heap.size w W0 := by subst hW; exact (Below.refl _ _).alloc (Nat.le_refl _) _
  have hrow : W0.heap[w.heap.size]? = some (.cells #[.slice U u.length uc, .slice A l.length ac, .slice P p.length pc] 24 (0, 0)) := by subst hW; exact heap_alloc_new w _
  have hlt : w.heap.size < W0.heap.size := (Array.getElem?_eq_some_iff.1 hrow).1
  have kk : ∀ V, Below W0.heap.size W0 V → V.cell? ⟨w.heap.size, 0, none⟩ = some (.slice U u.length uc) ∧ V.cell? ⟨w.heap.size, 1, none⟩ = some (.slice A l.length ac) ∧ V.cell? ⟨w.heap.size, 2, none⟩ = some (.slice P p.length pc) := fun V h => three_cellsB ((h.block _ hlt).trans hrow)
  have hV := fun V (hV : Below W0.heap.size W0 V) => h.below (hB0.trans (hV.mono hB0.size))
  have q1 := refSet_ok u _ W0 (hV _ (Below.refl _ _)).su lu
  obtain ⟨d0, d1, d2⟩ := kk _ (Below.refl _ _)
  clear h
  go_enter Tryz.func23, Tryz.ntmps23
  go_wp2_with fail
  rw [← hW]
  clear hW
  refine q1.mono ?_
  rintro e w1 ⟨r1, rfl, h1, hX1⟩
  obtain ⟨d0, d1, d2⟩ := kk _ hX1
  clear q1
  by_cases c1 : r1 = 0
  rotate_left
  · have e1 : (r1 == 0) = false := by rw [beq_eq_false_iff_ne]; exact c1
    have e1' : (r1 != 0) = true := by rw [bne_iff_ne]; exact c1
    have C1 := Lib.hid c1
    clear c1 h1
    go_wp2
    go_ret
    exact ⟨r1, rfl, fun h => absurd h C1.out, hB0.trans (hX1.mono hB0.size)⟩
  have H1 := Lib.hid (h1 c1)
  clear h1
  subst c1
  have q2 := refSet_ok l _ w1 (hV _ hX1).sl ll
  go_wp2_with fail
  refine q2.mono ?_
  rintro e w2 ⟨r2, rfl, h2, hB2⟩
  have hX2 := hX1.trans (hB2.mono hX1.size)
  obtain ⟨d0, d1, d2⟩ := kk _ hX2
  clear q2
  by_cases c2 : r2 = 0
  rotate_left
  · have e1 : (r2 == 0) = false := by rw [beq_eq_false_iff_ne]; exact c2
    have e1' : (r2 != 0) = true := by rw [bne_iff_ne]; exact c2
    have C1 := Lib.hid c2
    clear c2 h2
    go_wp2
    go_ret
    exact ⟨r2, rfl, fun h => absurd h C1.out, hB0.trans (hX2.mono hB0.size)⟩
  have H2 := Lib.hid (h2 c2)
  clear h2
  subst c2
  have q3 := refPath_ok p _ w2 (hV _ hX2).sp lp
  go_wp2_with fail
  refine q3.mono ?_
  rintro e w3 ⟨r3, rfl, h3, hB3⟩
  have hX3 := hX2.trans (hB3.mono hX2.size)
  obtain ⟨d0, d1, d2⟩ := kk _ hX3
  clear q3
  by_cases c3 : r3 = 0
  rotate_left
  · have e1 : (r3 == 0) = false := by rw [beq_eq_false_iff_ne]; exact c3
    have e1' : (r3 != 0) = true := by rw [bne_iff_ne]; exact c3
    have C1 := Lib.hid c3
    clear c3 h3
    go_wp2
    go_ret
    exact ⟨r3, rfl, fun h => absurd h C1.out, hB0.trans (hX3.mono hB0.size)⟩
  have H3 := Lib.hid (h3 c3)
  clear h3
  subst c3
  have hlp := H3.out.len
  have hll := (chkI_zero.1 H2.out.1).1
  have hnl := (chkI_zero.1 H2.out.1).2.1
  have hpre : ∀ j s, j < 0 → p[j]? = some s → ∀ c ∈ l, Near (shiftC s c) 1000 := fun j s hj => by omega
  clear d0 d1 d2
  go_wp2
  go_loopw [4] (fun i wr => ∃ k : Nat, k ≤ p.length ∧ i = .int .i64 k ∧ (∀ j s, j < k → p[j]? = some s → ∀ c ∈ l, Near (shiftC s c) 1000) ∧ Below W0.heap.size W0 wr) (fun i _ => p.length - (intOf i).toNat)
  case atStart => exact ⟨0, Nat.zero_le _, rfl, hpre, hX3⟩
  case round =>
    clear hpre hX3 hX2 hX1 hB2 hB3
    obtain ⟨k, hk, rfl, hpre, hX⟩ := hrel
    rename World => w4
    obtain ⟨d0, d1, d2⟩ := kk _ hX
    rcases Nat.lt_or_eq_of_le hk with hkn | rfl
    · obtain ⟨b, o, x, y, z, rfl, -, hb, hc, r0, r1, r2⟩ := (hV _ hX).sp.cells hkn
      have hns := path_at H3.out hc
      have kR : ∀ V, Below w4.heap.size w4 V → V.cell? ⟨w.heap.size, 1, none⟩ = some (.slice A l.length ac) ∧ V.cell? ⟨w.heap.size, 2, none⟩ = some (.slice (some ⟨b, o, none⟩) p.length pc) ∧ V.cell? ⟨b, o + k * 3, none⟩ = some (.int .i64 x) ∧ V.cell? ⟨b, o + k * 3 + 1, none⟩ = some (.int .i64 y) ∧ V.cell? ⟨b, o + k * 3 + 2, none⟩ = some (.int .i64 z) := fun V h => by
        obtain ⟨-, z1, z2⟩ := kk V (hX.trans (h.mono hX.size))
        exact ⟨z1, z2, (h.cell (p := ⟨b, _, none⟩) hb).trans r0, (h.cell (p := ⟨b, _, none⟩) hb).trans r1, (h.cell (p := ⟨b, _, none⟩) hb).trans r2⟩
      have hi0 : (0 : Int) ≤ k := by omega
      have hi1 : (k : Int) < p.length := by omega
      have wk := wrapS (n := (k : Int) + 1) (by omega)
      have hY : Below w4.heap.size w4 w4.drew := (Below.refl _ _).drew
      have hky := kR _ hY
      have q5 := fun V (h : Below w4.heap.size w4 V) => refShift_ok l (.slice A l.length ac) (x, y, z) V (hV _ (hX.trans (h.mono hX.size))).sl (by omega) (fun c hc => by
        have h1 := hnl c hc
        unfold Near at h1 hns
        dsimp only at hns ⊢
        omega)
      have q6 := fun V v (h : Sl V v (l.map (shiftC (x, y, z)))) => outCells_ok (l.map (shiftC (x, y, z))) v V h (by rw [List.length_map]; unfold maxLen; omega)
      have hstep : outI (l.map (shiftC (x, y, z))) = 0 → ∀ j s, j < k + 1 → p[j]? = some s → ∀ c ∈ l, Near (shiftC s c) 1000 := fun ho j s hj hs c hcl => by
        rcases Nat.lt_or_eq_of_le (Nat.le_of_lt_succ hj) with hj | rfl
        · exact hpre j s hj hs c hcl
        · rw [hc] at hs
          cases hs
          exact vec_zero (out_zero ho _ (List.mem_map.2 ⟨c, hcl, rfl⟩))
      have HS := Lib.hid hstep
      dsimp only at q5
      generalize outI (l.map (shiftC (x, y, z))) = r at q6 HS
      clear hpre hc r0 r1 r2 hstep hnl hns d0 d1 d2
      go_wp2_with fail
      go_region_held3 (fun w' => w'.cell? ⟨w.heap.size, 1, none⟩ = some (.slice A l.length ac) ∧ w'.cell? ⟨w.heap.size, 2, none⟩ = some (.slice (some ⟨b, o, none⟩) p.length pc) ∧ w'.cell? ⟨b, o + k * 3, none⟩ = some (.int .i64 x) ∧ w'.cell? ⟨b, o + k * 3 + 1, none⟩ = some (.int .i64 y) ∧ w'.cell? ⟨b, o + k * 3 + 2, none⟩ = some (.int .i64 z)) (first | exact hky | go_keep)
        (first
          | (go_at_call 60; refine (q5 _ hY).mono ?_; rintro e w5 ⟨v5, rfl, hS5, hB5⟩; have hY := hY.trans (hB5.mono hY.size); have hky := kR _ hY; have q7 := q6 _ _ hS5.sl)
          | (go_at_call 59; refine q7.mono ?_; rintro e w6 ⟨rfl, hB6⟩; have hY := hY.trans (hB6.mono hY.size); have hky := kR _ hY))
      rename_i hHeld
      clear hHeld
      have hXf := hX.trans (hY.mono hX.size)
      clear hky q5 q6 q7
      by_cases hr : r = 0
      · subst hr
        go_wp2
        exact ⟨⟨k + 1, hkn, rfl, HS.out rfl, hXf⟩, by simp [intOf]; omega⟩
      · have e1' : (r != 0) = true := by rw [bne_iff_ne]; exact hr
        clear hr
        go_wp2
        go_ret
        exact ⟨3, rfl, fun h => (by cases h), hB0.trans (hXf.mono hB0.size)⟩
    · have HP := Lib.hid hpre
      clear hpre
      go_wp2
      go_ret
      refine ⟨0, rfl, fun _ => ⟨H1.out.1, H2.out.1, H1.out.2, H2.out.2, H3.out, fun s hs c hc => ?_⟩, hB0.trans (hX.mono hB0.size)⟩
      obtain ⟨j, hj⟩ := List.mem_iff_getElem?.1 hs
      exact HP.out j s (List.getElem?_eq_some_iff.1 hj).1 hj c hc
end Go.Proofs
end
