import Derived.Test.YtmgnidodkipohaaSetF
import Derived.Lib.Hide
import Derived.Test.YtmgnidodkipohaaLawOut
namespace Go.Proofs
open Go.RowKit
set_option maxHeartbeats 16000000
set_option maxRecDepth 1000000
theorem turns_in (k m n : Nat) (hk : k < 24) (hm : m < 24) (hn : n < 24) (w : World) :
    Calls Try.prog 4 #[.int .i64 k, .int .i64 m, .int .i64 n] w fun e w' => e = .returned (.bool true) ∧ Below w.heap.size w w' := by
  have hkm := twN_lt hk hm
  have hmn := twN_lt hm hn
  have ek : withinI k 0 23 = 0 := by unfold withinI; rw [if_neg (by omega)]
  have em : withinI m 0 23 = 0 := by unfold withinI; rw [if_neg (by omega)]
  have en : withinI n 0 23 = 0 := by unfold withinI; rw [if_neg (by omega)]
  have ekm : withinI (twN k m : Nat) 0 23 = 0 := by unfold withinI; rw [if_neg (by omega)]
  have emn : withinI (twN m n : Nat) 0 23 = 0 := by unfold withinI; rw [if_neg (by omega)]
  have hass : twN (twN k m) n = twN k (twN m n) := by
    have h := List.all_eq_true.1 (List.all_eq_true.1 (List.all_eq_true.1 twice_assoc k (List.mem_range.2 hk)) m (List.mem_range.2 hm)) n (List.mem_range.2 hn)
    exact Nat.eq_of_beq_eq_true h
  have tw : ∀ a b, a < 24 → b < 24 → ∀ W, Below w.heap.size w W → Calls Try.prog 22 #[.int .i64 (a : Nat), .int .i64 (b : Nat)] W fun e w' => e = .returned (.tuple #[.int .i64 (twN a b), .int .i64 0]) ∧ Below w.heap.size w w' := fun a b ha hb W hW => (twice_ok a b ha hb W).mono (by
    rintro e w' ⟨h, hB⟩
    exact ⟨h, hW.trans (hB.mono hW.size)⟩)
  have cr : ∀ a : Int, withinI a 0 23 = 0 → ∀ W, Below w.heap.size w W → Calls Try.prog 9 #[.int .i64 a, .int .i64 0, .int .i64 23] W fun e w' => e = .returned (.int .i64 0) ∧ Below w.heap.size w w' := fun a ha W hW => by
    have h := checkRange_ok a 0 23 W
    rw [ha] at h
    refine h.mono ?_
    rintro e w' ⟨h1, h2⟩
    rw [h2]
    exact ⟨h1, hW⟩
  have hB0 : Below w.heap.size w w := Below.refl _ _
  go_enter Try.func4, Try.ntmps4
  go_upto_region 11 with (first
    | (go_at_call 9; refine (cr _ ?_ _ ?_).mono ?_; (assumption); (assumption); rintro e w1 ⟨rfl, hB1⟩)
    | (go_at_call 22; refine (tw _ _ ?_ ?_ _ ?_).mono ?_; (assumption); (assumption); (assumption); rintro e w1 ⟨rfl, hB1⟩))
  clear hass ekm emn ek em en
  go_upto_region 13 with fail
  obtain ⟨W, hW⟩ : ∃ W, W = (w1.alloc (.cells #[.int .i64 0, .int .i64 0, .int .i64 0] 32)).alloc (.cells #[.int .i64 0, .int .i64 0, .int .i64 0, .int .i64 0, .int .i64 0, .int .i64 3, .int .i64 0, .int .i64 2, .int .i64 0, .int .i64 1, .int .i64 0, .int .i64 0] 32) := ⟨_, rfl⟩
  have z0 : W.cell? ⟨w1.heap.size, 0, none⟩ = some (.int .i64 0) := by subst hW; go_simp
  have z1 : W.cell? ⟨w1.heap.size, 1, none⟩ = some (.int .i64 0) := by subst hW; go_simp
  have z2 : W.cell? ⟨w1.heap.size, 2, none⟩ = some (.int .i64 0) := by subst hW; go_simp
  have hBW : Below w.heap.size w W := by subst hW; exact (hB1.alloc hB1.size _).alloc (by have := hB1.size; simp; omega) _
  have hZ : w1.heap.size < W.heap.size := by subst hW; simp; omega
  have hA : w1.heap.size + 1 < W.heap.size := by subst hW; simp
  have rowA : RowAt W (w1.heap.size + 1) 0 axesL := fun i c h => by
    match i, h with
    | 0, h => obtain rfl : (0, 0, 0) = c := by simpa [axesL] using h
              subst hW; refine ⟨?_, ?_, ?_⟩ <;> go_simp
    | 1, h => obtain rfl : (0, 0, 3) = c := by simpa [axesL] using h
              subst hW; refine ⟨?_, ?_, ?_⟩ <;> go_simp
    | 2, h => obtain rfl : (0, 2, 0) = c := by simpa [axesL] using h
              subst hW; refine ⟨?_, ?_, ?_⟩ <;> go_simp
    | 3, h => obtain rfl : (1, 0, 0) = c := by simpa [axesL] using h
              subst hW; refine ⟨?_, ?_, ?_⟩ <;> go_simp
    | i + 4, h => simp [axesL] at h
  have zz : ∀ V, Below W.heap.size W V → V.cell? ⟨w1.heap.size, 0, none⟩ = some (.int .i64 0) ∧ V.cell? ⟨w1.heap.size, 1, none⟩ = some (.int .i64 0) ∧ V.cell? ⟨w1.heap.size, 2, none⟩ = some (.int .i64 0) := fun V h =>
    ⟨(h.cell (p := ⟨w1.heap.size, 0, none⟩) hZ).trans z0, (h.cell (p := ⟨w1.heap.size, 1, none⟩) hZ).trans z1, (h.cell (p := ⟨w1.heap.size, 2, none⟩) hZ).trans z2⟩
  have rowV : ∀ V, Below W.heap.size W V → RowAt V (w1.heap.size + 1) 0 axesL := fun V h i c hi => by
    obtain ⟨r0, r1, r2⟩ := rowA i c hi
    exact ⟨(h.cell (p := ⟨w1.heap.size + 1, 0 + i * 3, none⟩) hA).trans r0, (h.cell (p := ⟨w1.heap.size + 1, 0 + i * 3 + 1, none⟩) hA).trans r1, (h.cell (p := ⟨w1.heap.size + 1, 0 + i * 3 + 2, none⟩) hA).trans r2⟩
  have zn : Near zeroC 0 := by unfold Near zeroC; decide
  have hTa : ∀ i : Nat, i < 24 → ∀ V, Below W.heap.size W V → Calls Try.prog 21 #[.slice (some ⟨w1.heap.size + 1, 0, none⟩) 4 4, .int .i64 i, .agg #[.int .i64 0, .int .i64 0, .int .i64 0]] V fun e V' => ∃ B, e = .returned (.tuple #[.slice (some ⟨B, 0, none⟩) 4 4, .int .i64 0]) ∧ V.heap.size ≤ B ∧ Filled V' B 4 32 (sortC (axesL.map (turnB i zeroC))) ∧ Below V.heap.size V V' := fun i hi V h =>
    (gTurn axes_good zn (by omega) (by omega) (by omega) (by decide) hi (rowV V h) (Nat.lt_of_lt_of_le hA h.size)).2
  have hMa : ∀ j : Nat, j < 3 → ∀ V, Below W.heap.size W V → Calls Try.prog 23 #[.slice (some ⟨w1.heap.size + 1, 0, none⟩) 4 4, .int .i64 j, .int .i64 0] V fun e V' => ∃ B, e = .returned (.tuple #[.slice (some ⟨B, 0, none⟩) 4 4, .int .i64 0]) ∧ V.heap.size ≤ B ∧ Filled V' B 4 32 (sortC (axesL.map (mirrorC j))) ∧ Below V.heap.size V V' := fun j hj V h =>
    (gMirror axes_good (by omega) (by decide) hj (rowV V h) (Nat.lt_of_lt_of_le hA h.size)).2
  rw [← hW]
  clear hW rowA
  generalize w1.heap.size = Z at *
  have hrem : (n : Int).tmod 3 = ((n % 3 : Nat) : Int) := rfl
  have hn3 : n % 3 < 3 := Nat.mod_lt _ (by decide)
  have hBWW : Below W.heap.size W W := Below.refl _ _
  go_wp2_with (first
    | (go_at_call 21; refine (hTa _ ?_ _ ?_).mono ?_; (assumption); (assumption); rintro e V1 ⟨B1, rfl, hB1', hF1, hBV1⟩)
    | (go_at_call 23; refine (hMa _ hn3 _ hBV1).mono ?_; rintro e V2 ⟨B2, rfl, hB2', hF2, hBV2⟩))
  have hsm : ∀ i, i < 24 → sT i ≠ sMir (n % 3) := fun i hi => sT_ne_mir hi hn3
  have hml := sMir_len (n % 3)
  have hM0 : sortC (axesL.map (mirrorC (n % 3))) = sMir (n % 3) := rfl
  rw [hM0] at hF2
  clear hM0
  generalize sMir (n % 3) = sM at hF2 hsm hml
  have hT0 : ∀ i, sortC (axesL.map (turnB i zeroC)) = sT i := fun _ => rfl
  simp only [hT0] at hTa hF1
  clear hT0
  have hBV : Below W.heap.size W V2 := hBV1.trans (hBV2.mono hBV1.size)
  have hB1lt := hF1.lt
  have hF1' := hF1.below hBV2 hB1lt
  have hB2lt := hF2.lt
  have hB1lt' := hF1'.lt
  clear hBV1 hBV2 hF1 hB1lt cr tw hMa z0 z1 z2
  go_loopw [21, 22, 133] (fun s u i wr => ∃ j : Nat, j ≤ 24 ∧ i = .int .i64 j ∧ s = .int .i64 (cntOf (fun i => decide (sT i = sT k)) j : Nat) ∧ u = .int .i64 (cntOf (fun i => Nat.beq (twN k i) 0) j : Nat) ∧ Below V2.heap.size V2 wr) (fun _ _ i _ => 24 - (intOf i).toNat)
  case atStart => exact ⟨0, Nat.zero_le _, rfl, rfl, rfl, Below.refl _ _⟩
  case round =>
    obtain ⟨j, hj, rfl, rfl, rfl, hBel⟩ := hrel
    have c1 := cntOf_succ (fun i => decide (sT i = sT k)) j
    have c2 := cntOf_succ (fun i => Nat.beq (twN k i) 0) j
    have l1 := cntOf_le (fun i => decide (sT i = sT k)) j
    have l2 := cntOf_le (fun i => Nat.beq (twN k i) 0) j
    have v1 : j = 24 → cntOf (fun i => decide (sT i = sT k)) j = 1 := by rintro rfl; exact cnt_same hk
    have v2 : j = 24 → cntOf (fun i => Nat.beq (twN k i) 0) j = 1 := by rintro rfl; exact cnt_undone hk
    generalize cntOf (fun i => decide (sT i = sT k)) j = cs at c1 l1 v1 ⊢
    generalize cntOf (fun i => Nat.beq (twN k i) 0) j = cu at c2 l2 v2 ⊢
    rcases Nat.lt_or_eq_of_le hj with hjn | rfl
    · clear v1 v2
      obtain ⟨y0, y1, y2⟩ := zz wr (hBV.trans (hBel.mono hBV.size))
      have hBW2 : Below W.heap.size W wr := hBV.trans (hBel.mono hBV.size)
      have hsj := hsm j hjn
      clear hsm
      go_upto_region 22 with (go_at_call 21; refine (hTa j hjn _ hBW2).mono ?_; rintro e V3 ⟨B3, rfl, hB3, hF3, hBV3⟩)
      go_upto_region 23 with (go_at_call 22; refine (twice_ok k j hk hjn _).mono ?_; rintro e V4 ⟨rfl, hBV4⟩)
      have hb3 := hF3.lt
      have hF4 := hF3.below hBV4 hb3
      have hBr : Below V2.heap.size V2 V4 := (hBel.trans (hBV3.mono hBel.size)).trans (hBV4.mono (Nat.le_trans hBel.size hBV3.size))
      have hFM := hF2.below hBr hB2lt
      have hFH := hF1'.below hBr hB1lt'
      have s1 := sameCells_ok (sT j) sM B3 0 4 B2 0 4 V4 hF4.row hFM.row (by rw [sT_len]; decide)
      rw [decide_eq_false hsj, sT_len, hml] at s1
      clear hBV3 hBV4 hF3 hBel hB3 y0 y1 y2 hBW2
      have C1 := Lib.hid c1
      have C2 := Lib.hid c2
      clear c1 c2
      go_upto_region 25 with (go_at_call 18; refine s1.mono ?_; rintro e V5 ⟨rfl, q, hq⟩)
      subst hq
      have hBr5 : Below V2.heap.size V2 (V4.drewN q) := ⟨hBr.os, hBr.tape, hBr.output, hBr.size, hBr.block⟩
      have h45 : Below V4.heap.size V4 (V4.drewN q) := ⟨rfl, rfl, rfl, Nat.le_refl _, fun _ _ => rfl⟩
      have hF5 := hF4.below h45 hF4.lt
      have hFH5 := hFH.below h45 hFH.lt
      generalize V4.drewN q = V5 at hBr5 hF5 hFH5 ⊢
      have s2 := sameCells_ok (sT j) (sT k) B3 0 4 B1 0 4 V5 hF5.row hFH5.row (by rw [sT_len]; decide)
      rw [sT_len, sT_len] at s2
      clear hF5 hFH5 h45 hBr hF4 hFM hFH hsj s1 zz rowV hTa hF2 hF1' hBV hBW hb3 hB2lt hB1lt' hml hBWW hZ hA hB1 hB0 hrem
      have hB6 : ∀ Q, Below V2.heap.size V2 (V5.drewN Q) := fun Q => ⟨hBr5.os, hBr5.tape, hBr5.output, hBr5.size, hBr5.block⟩
      have hcs : (cs : Int) ≤ 24 := by omega
      have hcu : (cu : Int) ≤ 24 := by omega
      have hj24 : (j : Int) < 24 := by omega
      clear l1 l2 hBr5
      generalize hq : twN k j = tk at C2 ⊢
      have key : ∀ (c : Nat) (f : Nat → Bool), RowKit.Hid (cntOf f (j + 1) = c + if f j = true then 1 else 0) → (f j = true → cntOf f (j + 1) = c + 1) ∧ (f j = false → cntOf f (j + 1) = c) := fun c f h => by
        have h' : cntOf f (j + 1) = c + if f j = true then 1 else 0 := h.out
        refine ⟨fun e => ?_, fun e => ?_⟩
        · rw [h', e]; rfl
        · rw [h', e]; rfl
      have k1 := key cs (fun i => decide (sT i = sT k)) C1
      have k2 := key cu (fun i => Nat.beq (twN k i) 0) (by
        have := C2
        subst hq
        exact this)
      clear key C1 C2
      have e2 : Nat.beq (twN k j) 0 = Nat.beq tk 0 := by subst hq; rfl
      clear hq
      rw [e2] at k2
      clear e2
      have K2 := Lib.hid k2
      have K1 := Lib.hid k1
      clear k1 k2
      by_cases hS : sT j = sT k
      · rw [decide_eq_true hS] at s2
        have d1 := K1.out.1 (decide_eq_true hS)
        clear hS K1
        have D1 := Lib.hid d1
        clear d1
        go_upto_region 27 with (go_at_call 18; refine s2.mono ?_; rintro e V6 ⟨rfl, q2, hq2⟩)
        subst hq2
        have hB7 := hB6 q2
        clear hB6 s2
        generalize V5.drewN q2 = V7 at hB7 ⊢
        rcases Nat.eq_zero_or_pos tk with rfl | hpos
        · have d2 := K2.out.1 rfl
          clear K2
          have D2 := Lib.hid d2
          clear d2
          go_wp2
          exact ⟨⟨j + 1, hjn, rfl, by rw [D1.out]; rfl, by rw [D2.out]; rfl, hB7⟩, by simp [intOf]; omega⟩
        · have d2 := K2.out.2 (by cases tk with | zero => omega | succ t => rfl)
          clear K2
          have D2 := Lib.hid d2
          clear d2
          have hz : ((tk : Int) == 0) = false := by rw [beq_eq_false_iff_ne]; omega
          clear hpos
          go_wp2
          exact ⟨⟨j + 1, hjn, rfl, by rw [D1.out]; rfl, by rw [D2.out], hB7⟩, by simp [intOf]; omega⟩
      · rw [decide_eq_false hS] at s2
        have d1 := K1.out.2 (decide_eq_false hS)
        clear hS K1
        have D1 := Lib.hid d1
        clear d1
        go_upto_region 27 with (go_at_call 18; refine s2.mono ?_; rintro e V6 ⟨rfl, q2, hq2⟩)
        subst hq2
        have hB7 := hB6 q2
        clear hB6 s2
        generalize V5.drewN q2 = V7 at hB7 ⊢
        rcases Nat.eq_zero_or_pos tk with rfl | hpos
        · have d2 := K2.out.1 rfl
          clear K2
          have D2 := Lib.hid d2
          clear d2
          go_wp2
          exact ⟨⟨j + 1, hjn, rfl, by rw [D1.out], by rw [D2.out]; rfl, hB7⟩, by simp [intOf]; omega⟩
        · have d2 := K2.out.2 (by cases tk with | zero => omega | succ t => rfl)
          clear K2
          have D2 := Lib.hid d2
          clear d2
          have hz : ((tk : Int) == 0) = false := by rw [beq_eq_false_iff_ne]; omega
          clear hpos
          go_wp2
          exact ⟨⟨j + 1, hjn, rfl, by rw [D1.out], by rw [D2.out], hB7⟩, by simp [intOf]; omega⟩
    · obtain rfl := v1 rfl
      obtain rfl := v2 rfl
      have hBW3 : Below W.heap.size W wr := hBV.trans (hBel.mono hBV.size)
      have hFH : Filled wr B1 4 32 (sT k) := hF1'.below hBel hB1lt'
      clear hF2 hF1' hml hB2lt hB1lt' hsm hBV hrem hTa c1 c2 l1 l2 hj hB2' hB1' v1 v2
      have hgT := sT_good hk
      have hsl := sT_len k
      have hab := aboutC_near hm hn
      have M1 : ∀ J : Int, J = ((n + 1) % 3 : Nat) → ∀ V, Filled V B1 4 32 (sT k) → Calls Try.prog 23 #[.slice (some ⟨B1, 0, none⟩) 4 4, .int .i64 J, .int .i64 0] V fun e w' => ∃ B', e = .returned (.tuple #[.slice (some ⟨B', 0, none⟩) 4 4, .int .i64 0]) ∧ Filled w' B' 4 32 (sortC ((sT k).map (mirrorC ((n + 1) % 3)))) ∧ Below V.heap.size V w' := fun J hJ V hF => mirrorF hgT (by omega) hsl (by omega) (by omega) hJ hF
      have T1 : ∀ K : Int, K = halfN (n % 3) → ∀ V, Filled V B1 4 32 (sT k) → Calls Try.prog 21 #[.slice (some ⟨B1, 0, none⟩) 4 4, .int .i64 K, .agg #[.int .i64 0, .int .i64 0, .int .i64 0]] V fun e w' => ∃ B', e = .returned (.tuple #[.slice (some ⟨B', 0, none⟩) 4 4, .int .i64 0]) ∧ Filled w' B' 4 32 (sortC ((sT k).map (turnB (halfN (n % 3)) zeroC))) ∧ Below V.heap.size V w' := fun K hK V hF => turnF hgT zeroC_near (by omega) (by omega) (by omega) hsl (by omega) (halfN_lt (n % 3)) hK hF rfl
      have hg1 := good_mirror hgT ((n + 1) % 3)
      have hg5 := good_shift axes_good (negC_near hab)
      have hg6 := good_turn hg5 hk zeroC_near
      have hL1 := len_sort_map (sT k) (mirrorC ((n + 1) % 3)) hsl
      have hL4 : (sortC (axesL.map (turnB k (↑m, -↑n, 5)))).length = 4 := len_sort_map axesL _ rfl
      have hL5 : (sortC (axesL.map (shiftC (negC (↑m, -↑n, 5))))).length = 4 := len_sort_map axesL _ rfl
      have hEq : sortC ((sortC ((sT k).map (mirrorC ((n + 1) % 3)))).map (mirrorC ((n + 2) % 3))) = sortC ((sT k).map (turnB (halfN (n % 3)) zeroC)) := by
        have h := two_half' hk hn3
        rwa [show (n % 3 + 1) % 3 = (n + 1) % 3 by omega, show (n % 3 + 2) % 3 = (n + 2) % 3 by omega] at h
      have hFar := far_again k (↑m, -↑n, 5) axesL
      have FA : ∀ V, Below W.heap.size W V → Calls Try.prog 21 #[.slice (some ⟨Z + 1, 0, none⟩) 4 4, .int .i64 k, .agg #[.int .i64 m, .int .i64 (-n), .int .i64 5]] V fun e V' => ∃ B, e = .returned (.tuple #[.slice (some ⟨B, 0, none⟩) 4 4, .int .i64 0]) ∧ Filled V' B 4 32 (sortC (axesL.map (turnB k (↑m, -↑n, 5)))) ∧ Below V.heap.size V V' := fun V h =>
        (gTurn axes_good hab (by omega) (by omega) (by omega) (by decide) hk (rowV V h) (Nat.lt_of_lt_of_le hA h.size)).2.mono (by
          rintro e w' ⟨B, h1, -, h2, h3⟩
          exact ⟨B, h1, h2, h3⟩)
      have SH : ∀ x y z : Int, negC (↑m, -↑n, 5) = (x, y, z) → ∀ V, Below W.heap.size W V → Calls Try.prog 24 #[.slice (some ⟨Z + 1, 0, none⟩) 4 4, .agg #[.int .i64 x, .int .i64 y, .int .i64 z]] V fun e V' => ∃ B, e = .returned (.tuple #[.slice (some ⟨B, 0, none⟩) 4 4, .int .i64 0]) ∧ Filled V' B 4 32 (sortC (axesL.map (shiftC (negC (↑m, -↑n, 5))))) ∧ Below V.heap.size V V' := fun x y z hxyz V h => by
        have h1 := (gShift axes_good (negC_near hab) (by omega) (by omega) (by omega) (by decide) (cap := 4) (rowV V h) (Nat.lt_of_lt_of_le hA h.size)).2
        rw [hxyz] at h1
        rw [hxyz]
        refine h1.mono ?_
        rintro e w' ⟨B, h1, -, h2, h3⟩
        exact ⟨B, h1, h2, h3⟩
      generalize sortC ((sT k).map (mirrorC ((n + 1) % 3))) = l1 at M1 hg1 hL1 hEq
      have M2 : ∀ J : Int, J = ((n + 2) % 3 : Nat) → ∀ V B, Filled V B 4 32 l1 → Calls Try.prog 23 #[.slice (some ⟨B, 0, none⟩) 4 4, .int .i64 J, .int .i64 0] V fun e w' => ∃ B', e = .returned (.tuple #[.slice (some ⟨B', 0, none⟩) 4 4, .int .i64 0]) ∧ Filled w' B' 4 32 (sortC (l1.map (mirrorC ((n + 2) % 3)))) ∧ Below V.heap.size V w' := fun J hJ V B hF => mirrorF hg1 (by omega) hL1 (by omega) (by omega) hJ hF
      have hL2 := len_sort_map l1 (mirrorC ((n + 2) % 3)) hL1
      have hL3 := len_sort_map (sT k) (turnB (halfN (n % 3)) zeroC) hsl
      generalize sortC (l1.map (mirrorC ((n + 2) % 3))) = l2 at M2 hEq hL2
      generalize sortC ((sT k).map (turnB (halfN (n % 3)) zeroC)) = l3 at T1 hEq hL3
      generalize sortC (axesL.map (turnB k (↑m, -↑n, 5))) = l4 at FA hFar hL4
      generalize sortC (axesL.map (shiftC (negC (↑m, -↑n, 5)))) = l5 at SH hFar hg5 hg6 hL5
      have T6 : ∀ V B, Filled V B 4 32 l5 → Calls Try.prog 21 #[.slice (some ⟨B, 0, none⟩) 4 4, .int .i64 k, .agg #[.int .i64 0, .int .i64 0, .int .i64 0]] V fun e w' => ∃ B', e = .returned (.tuple #[.slice (some ⟨B', 0, none⟩) 4 4, .int .i64 0]) ∧ Filled w' B' 4 32 (sortC (l5.map (turnB k zeroC))) ∧ Below V.heap.size V w' := fun V B hF => turnF hg5 zeroC_near (by omega) (by omega) (by omega) hL5 (by omega) hk rfl hF rfl
      have hL6 := len_sort_map l5 (turnB k zeroC) hL5
      generalize sortC (l5.map (turnB k zeroC)) = l6 at T6 hFar hg6 hL6
      have S7 : ∀ V B, Filled V B 4 32 l6 → Calls Try.prog 24 #[.slice (some ⟨B, 0, none⟩) 4 4, .agg #[.int .i64 m, .int .i64 (-n), .int .i64 5]] V fun e w' => ∃ B', e = .returned (.tuple #[.slice (some ⟨B', 0, none⟩) 4 4, .int .i64 0]) ∧ Filled w' B' 4 32 l4 ∧ Below V.heap.size V w' := fun V B hF => by
        rw [hFar]
        exact shiftF hg6 hab (by omega) (by omega) (by omega) hL6 (by omega) hF rfl
      have E1 : ∀ V B C, Filled V B 4 32 l2 → Filled V C 4 32 l3 → Calls Try.prog 18 #[.slice (some ⟨B, 0, none⟩) 4 4, .slice (some ⟨C, 0, none⟩) 4 4] V fun e w' => e = .returned (.bool true) ∧ Below V.heap.size V w' := fun V B C h1 h2 => by
        have h := sameF hL2 hL3 (by omega) h1 h2
        rwa [decide_eq_true hEq] at h
      have E2 : ∀ V B C, Filled V B 4 32 l4 → Filled V C 4 32 l4 → Calls Try.prog 18 #[.slice (some ⟨B, 0, none⟩) 4 4, .slice (some ⟨C, 0, none⟩) 4 4] V fun e w' => e = .returned (.bool true) ∧ Below V.heap.size V w' := fun V B C h1 h2 => by
        have h := sameF hL4 hL4 (by omega) h1 h2
        rwa [decide_eq_true rfl] at h
      have C5 : ∀ V B, Filled V B 4 32 l5 → Calls Try.prog 14 #[.slice (some ⟨B, 0, none⟩) 4 4] V fun e w' => e = .returned (.int .i64 0) ∧ Below V.heap.size V w' := fun V B h => refCheckF hg5 (by omega) hL5 (by omega) h
      have C6 : ∀ V B, Filled V B 4 32 l6 → Calls Try.prog 14 #[.slice (some ⟨B, 0, none⟩) 4 4] V fun e w' => e = .returned (.int .i64 0) ∧ Below V.heap.size V w' := fun V B h => refCheckF hg6 (by omega) hL6 (by omega) h
      clear hFar hEq hg1 hg5 hg6 hL1 hL2 hL3 hL4 hL5 hL6 hgT hsl hab rowV zn
      have R : (((n : Int).tmod 3 = 0 ∧ ((n : Int) + 1).tmod 3 = 1 ∧ ((n : Int) + 2).tmod 3 = 2) ∧ ((1 : Int) = ((n + 1) % 3 : Nat) ∧ (2 : Int) = ((n + 2) % 3 : Nat) ∧ (1 : Int) = halfN (n % 3))) ∨ (((n : Int).tmod 3 = 1 ∧ ((n : Int) + 1).tmod 3 = 2 ∧ ((n : Int) + 2).tmod 3 = 0) ∧ ((2 : Int) = ((n + 1) % 3 : Nat) ∧ (0 : Int) = ((n + 2) % 3 : Nat) ∧ (4 : Int) = halfN (n % 3))) ∨ (((n : Int).tmod 3 = 2 ∧ ((n : Int) + 1).tmod 3 = 0 ∧ ((n : Int) + 2).tmod 3 = 1) ∧ ((0 : Int) = ((n + 1) % 3 : Nat) ∧ (1 : Int) = ((n + 2) % 3 : Nat) ∧ (5 : Int) = halfN (n % 3))) := rem_facts n
      have hwn : IntKind.i64.wrap (-(n : Int)) = -n := wrapS (by omega)
      have hn24 : (n : Int) < 24 := by omega
      have hm24 : (m : Int) < 24 := by omega
      rcases R with ⟨⟨r0, r1, r2⟩, j1, j2, j3⟩ | ⟨⟨r0, r1, r2⟩, j1, j2, j3⟩ | ⟨⟨r0, r1, r2⟩, j1, j2, j3⟩
      all_goals
        have J1 := Lib.hid j1
        have J2 := Lib.hid j2
        have J3 := Lib.hid j3
        clear j1 j2 j3
        go_upto_region 33 with fail
        have hV5 : Below wr.heap.size wr (wr.alloc (.cells #[.int .i64 1, .int .i64 4, .int .i64 5] 3)) := (Below.refl _ _).alloc (Nat.le_refl _) _
        have F5 := hFH.below hV5 hFH.lt
        have W5 := hBW3.trans (hV5.mono hBW3.size)
        generalize wr.alloc (.cells #[.int .i64 1, .int .i64 4, .int .i64 5] 3) = V5 at hV5 F5 W5 ⊢
        clear hV5 hBel hFH hBW3
        go_upto_region 34 with (go_at_call 23; refine (M1 _ J1.out _ F5).mono ?_; rintro e V6 ⟨B6, rfl, F6, hb6⟩)
        have F5' := F5.below hb6 F5.lt
        have W6 := W5.trans (hb6.mono W5.size)
        clear hb6 F5 W5
        go_upto_region 35 with (go_at_call 23; refine (M2 _ J2.out _ _ F6).mono ?_; rintro e V7 ⟨B7, rfl, F7, hb7⟩)
        have F5 := F5'.below hb7 F5'.lt
        have W7 := W6.trans (hb7.mono W6.size)
        clear hb7 F5' W6 F6
        obtain ⟨y0, y1, y2⟩ := zz _ W7
        go_upto_region 36 with (go_at_call 21; refine (T1 _ J3.out _ F5).mono ?_; rintro e V8 ⟨B8, rfl, F8, hb8⟩)
        have F7' := F7.below hb8 F7.lt
        have W8 := W7.trans (hb8.mono W7.size)
        clear hb8 F5 F7 W7 y0 y1 y2
        go_upto_region 37 with fail
        obtain ⟨V9, hV9⟩ : ∃ V, V = V8.alloc (.cells #[.int .i64 m, .int .i64 (-n), .int .i64 5] 32) := ⟨_, rfl⟩
        have hb9 : Below V8.heap.size V8 V9 := by subst hV9; exact (Below.refl _ _).alloc (Nat.le_refl _) _
        have hQ : V8.heap.size < V9.heap.size := by subst hV9; simp
        have q0 : V9.cell? ⟨V8.heap.size, 0, none⟩ = some (.int .i64 m) := by subst hV9; go_simp
        have q1 : V9.cell? ⟨V8.heap.size, 1, none⟩ = some (.int .i64 (-n)) := by subst hV9; go_simp
        have q2 : V9.cell? ⟨V8.heap.size, 2, none⟩ = some (.int .i64 5) := by subst hV9; go_simp
        rw [← hV9]
        clear hV9
        have F9 := F8.below hb9 F8.lt
        have F9' := F7'.below hb9 F7'.lt
        have W9 := W8.trans (hb9.mono W8.size)
        generalize V8.heap.size = Q at *
        have aa : ∀ V, Below V9.heap.size V9 V → V.cell? ⟨Q, 0, none⟩ = some (.int .i64 m) ∧ V.cell? ⟨Q, 1, none⟩ = some (.int .i64 (-n)) ∧ V.cell? ⟨Q, 2, none⟩ = some (.int .i64 5) := fun V h =>
          ⟨(h.cell (p := ⟨Q, 0, none⟩) hQ).trans q0, (h.cell (p := ⟨Q, 1, none⟩) hQ).trans q1, (h.cell (p := ⟨Q, 2, none⟩) hQ).trans q2⟩
        go_upto_region 38 with (go_at_call 21; refine (FA _ W9).mono ?_; rintro e V10 ⟨B10, rfl, F10, hb10⟩)
        have G8 := F9.below hb10 F9.lt
        have G7 := F9'.below hb10 F9'.lt
        have W10 := W9.trans (hb10.mono W9.size)
        obtain ⟨a0, a1, a2⟩ := aa _ hb10
        obtain ⟨y0, y1, y2⟩ := zz _ W10
        clear q0 q1 q2 F8 F7' F9 F9' W8 W9 hb9 FA M1 M2 T1 J1 J2 J3
        go_upto_region 39 with (first
          | (go_at_call 25; refine (vector_ok _ _ _ _ _ _ _ ?_ ?_ ?_).mono ?_; (omega); (omega); (omega); rintro e V11 ⟨rfl, hb11⟩)
          | (go_at_call 24; refine (SH _ _ _ ?_ _ (W10.trans (hb11.mono W10.size))).mono ?_; (simp only [negC, Prod.mk.injEq]; omega); rintro e V12 ⟨B12, rfl, F12, hb12⟩))
        have hbx := hb11.trans (hb12.mono hb11.size)
        have H8 := G8.below hbx G8.lt
        have H7 := G7.below hbx G7.lt
        have H10 := F10.below hbx F10.lt
        have W12 := W10.trans (hbx.mono W10.size)
        have A12 := hb10.trans (hbx.mono hb10.size)
        clear hbx hb11 hb12 G8 G7 F10 W10 hb10 a0 a1 a2 y0 y1 y2 SH hwn r0 r1 r2
        go_upto_region 41 with (first
          | (go_at_call 18; refine (E1 _ _ _ H7 H8).mono ?_; rintro e V13 ⟨rfl, hb13⟩)
          | (go_at_call 14; refine (C5 _ _ (F12.below hb13 F12.lt)).mono ?_; rintro e V14 ⟨rfl, hb14⟩))
        have hbx := hb13.trans (hb14.mono hb13.size)
        have G10 := H10.below hbx H10.lt
        have G12 := F12.below hbx F12.lt
        have W14 := W12.trans (hbx.mono W12.size)
        have A14 := A12.trans (hbx.mono A12.size)
        clear hbx hb13 hb14 H8 H7 H10 F12 W12 A12 E1 C5
        obtain ⟨y0, y1, y2⟩ := zz _ W14
        go_upto_region 42 with (go_at_call 21; refine (T6 _ _ G12).mono ?_; rintro e V15 ⟨B15, rfl, F15, hb15⟩)
        have A15 := A14.trans (hb15.mono A14.size)
        have H10 := G10.below hb15 G10.lt
        have W15 := W14.trans (hb15.mono W14.size)
        clear hb15 G10 G12 A14 y0 y1 y2 T6 W14
        go_upto_region 44 with (go_at_call 14; refine (C6 _ _ F15).mono ?_; rintro e V16 ⟨rfl, hb16⟩)
        have A16 := A15.trans (hb16.mono A15.size)
        have G10 := H10.below hb16 H10.lt
        have G15 := F15.below hb16 F15.lt
        have W16 := W15.trans (hb16.mono W15.size)
        clear hb16 H10 F15 A15 C6 W15
        obtain ⟨a0, a1, a2⟩ := aa _ A16
        go_upto_region 45 with (go_at_call 24; refine (S7 _ _ G15).mono ?_; rintro e V17 ⟨B17, rfl, F17, hb17⟩)
        have H10 := G10.below hb17 G10.lt
        have W17 := W16.trans (hb17.mono W16.size)
        clear hb17 G10 G15 A16 a0 a1 a2 S7 W16 aa zz
        go_wp2_with (first
          | (go_at_call 18; refine (E2 _ _ _ H10 F17).mono ?_; rintro e V18 ⟨rfl, hb18⟩)
          | (go_at_call 10; refine (waxRing_ok _).mono ?_; rintro e V19 ⟨rfl, hb19⟩))
        have W19 := (W17.trans (hb18.mono W17.size)).trans (hb19.mono (Nat.le_trans W17.size hb18.size))
        go_ret
        exact ⟨rfl, hBW.trans (W19.mono hBW.size)⟩
/-- The law for all inputs. -/
theorem turns_all (k m n : Int) (w : World) :
    Calls Try.prog 4 #[.int .i64 k, .int .i64 m, .int .i64 n] w fun e w' => e = .returned (.bool true) ∧ Below w.heap.size w w' := by
  by_cases h : withinI k 0 23 = 0 ∧ withinI m 0 23 = 0 ∧ withinI n 0 23 = 0
  · obtain ⟨h1, h2, h3⟩ := h
    have e : ∀ a : Int, withinI a 0 23 = 0 → ∃ i : Nat, a = i ∧ i < 24 := fun a ha => by
      unfold withinI at ha
      split at ha
      · cases ha
      · exact ⟨a.toNat, by omega, by omega⟩
    obtain ⟨i, rfl, hi⟩ := e k h1
    obtain ⟨j, rfl, hj⟩ := e m h2
    obtain ⟨l, rfl, hl⟩ := e n h3
    exact turns_in i j l hi hj hl w
  · exact turns_out k m n w h
end Go.Proofs
