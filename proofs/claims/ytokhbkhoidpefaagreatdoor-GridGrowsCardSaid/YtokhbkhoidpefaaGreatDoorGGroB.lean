/- GridGrows: the walk. -/
import Derived.Test.YtokhbkhoidpefaaGreatDoorGrL
import Derived.Test.YtokhbkhoidpefaaGreatDoorAwk
namespace Go.Proofs
open Go.RowKit
set_option maxHeartbeats 16000000
set_option maxRecDepth 1000000
theorem within_kept {n lo hi : Int} (h : withinI n lo hi = 0) : lo ≤ n ∧ n ≤ hi := by
  unfold withinI at h
  split at h
  · cases h
  · omega
theorem ggrows_good_ok (a b : List Cel) (A : Option Addr) (ka : Nat) (B : Option Addr) (kb : Nat) (n : Int) (w : World) (kA : AwakeAt w) (ha : Sl w (.slice A a.length ka) a) (hb : Sl w (.slice B b.length kb) b) (hkb : b.length ≤ kb) (hkm : kb ≤ 9223372036854775807) (h1 : shortB a.length 40 = true) (h2 : shortB b.length 40 = true) (c d r2 : Int) (hc : chkI a = c) (hd : chkI b = d) (hw2 : withinI n 0 64 = r2) (hO : c = 0 ∧ r2 = 0) (h3 : n ≤ 3) (hc0 : c = 0) (hd0 : d = 0) (la0 : 0 < a.length) (lb0 : 0 < b.length) :
    Calls Tryz.prog 5 #[.slice A a.length ka, .slice B b.length kb, .int .i64 n] w fun e w' => e = .returned (.bool true) ∧ Below w.heap.size w w' := by
  have la := short_len h1 (by omega)
  have lb := short_len h2 (by omega)
  have k0 := kA w (Below.refl _ _)
  have kS1 := fun W => short_true h1 A ka W
  have kS2 := fun W => short_true h2 B kb W
  have kC1 := fun W (h : Below w.heap.size w W) => refCheckG a _ W (ha.below h) (by unfold maxLen; omega)
  have kC2 := fun W (h : Below w.heap.size w W) => refCheckG b _ W (hb.below h) (by unfold maxLen; omega)
  rw [hc] at kC1
  rw [hd] at kC2
  have kR := fun W => checkRange_ok n 0 64 W
  rw [hw2] at kR
  have kF1 := fun blk W => firstL2 c r2 blk 2 W
  have e1 : fstI [c, r2] = 0 := by rw [hO.1, hO.2]; rfl
  rw [e1] at kF1
  have hn0 := within_kept (hw2.trans hO.2)
  obtain ⟨n, rfl⟩ : ∃ k : Nat, n = k := ⟨n.toNat, by omega⟩
  have n3 : n ≤ 3 := by omega
  have l40 : a.length ≤ 40 := by have := (chkI_zero.1 (hc.trans hO.1)).1; omega
  have h3' : ¬ (3 : Int) < (n : Int) := by omega
  have kG := fun W (h : Below w.heap.size w W) => grow_res (ha.below h) (hc.trans hO.1) l40 n3
  have kH := fun W (h : Below w.heap.size w W) => shrink_res (ha.below h) (hc.trans hO.1) n3
  have kGr := fun (X : List Cel) (u : Up X) (m : ∀ c, c ∈ X ↔ c ∈ growN n a) W (h : Below w.heap.size w W) => grow_ref (ha.below h) (hc.trans hO.1) l40 n3 u m
  have kHr := fun W (h : Below w.heap.size w W) => shrink_ref (ha.below h) (hc.trans hO.1) n3
  have hXs := fun (X : List Cel) (u : Up X) (m : ∀ c, c ∈ X ↔ c ∈ growN n a) => grow_small l40 n3 (up_nodup u) (fun c h => (m c).1 h)
  generalize shrN n a = sh at kH kHr
  generalize growN n a = gr at kG kGr hXs
  have ea : (((a.length : Nat) : Int) == 0) = false := by rw [beq_eq_false_iff_ne]; omega
  have eb : (((b.length : Nat) : Int) == 0) = false := by rw [beq_eq_false_iff_ne]; omega
  have kW := fun W => when_ok false 12 W
  have kF2 := fun blk W => firstL3 c d 0 blk 3 W
  have e2 : fstI [c, d, 0] = 0 := by rw [hc0, hd0]; rfl
  rw [e2] at kF2
  have kD := fun W (h : Below w.heap.size w W) => apartG_ok a b _ _ kb W (ha.below h) (hb.below h) (hc.trans hc0) (hd.trans hd0) la0 lb0 hkb hkm ⟨B, rfl⟩
  have kDr := fun (m : Int) (q : Least a b m) W (h : Below w.heap.size w W) => apart_ref (ha.below h) (hb.below h) (hc.trans hc0) (hd.trans hd0) la0 lb0 q
  have kI := fun (m : Int) W => integer_same m W
  clear kA ha hb hkb hkm h1 h2 la lb hc hd hw2 h3 e1 hn0 l40 n3 hc0 hd0 la0 lb0 e2 hO
  go_enter Tryz.func5, Tryz.ntmps5
  go_wp2_with fail
  refine k0.mono ?_
  rintro e w1 ⟨rfl, hX⟩
  clear k0
  go_wp2_with fail
  refine (kS1 _).mono ?_
  rintro e w2 ⟨rfl, hw2⟩
  subst hw2
  go_wp2_with fail
  refine (kS2 _).mono ?_
  rintro e w3 ⟨rfl, hw3⟩
  subst hw3
  have q := kC1 _ hX
  go_wp2_with fail
  refine q.mono ?_
  rintro e w4 ⟨rfl, hB⟩
  replace hX := hX.trans (hB.mono hX.size)
  clear hB q
  go_wp2_with fail
  refine (kR _).mono ?_
  rintro e w5 ⟨rfl, hw5⟩
  subst hw5
  go_wp2_with fail
  refine (kF1 _ _ (by go_simp) (by go_simp)).mono ?_
  rintro e w6 ⟨rfl, hw6⟩
  have hB : Below w5.heap.size w5 w6 := by rw [hw6]; exact below_alloc _ _
  replace hX := hX.trans (hB.mono hX.size)
  clear hB hw6
  clear kS1 kS2 kR kF1
  have q := kG _ hX
  go_wp2_with fail
  refine q.mono ?_
  rintro e w7 ⟨X, A1, n1, k1, E1, hXu, hXm, rfl, hR1, hB⟩
  replace hX := hX.trans (hB.mono hX.size)
  clear hB q
  have q := kH _ hX
  go_wp2_with fail
  refine q.mono ?_
  rintro e w8 ⟨A2, n2, k2, E2, rfl, hR2, hB⟩
  replace hX := hX.trans (hB.mono hX.size)
  replace hR1 := hR1.below hB
  clear hB q
  have q := kD _ hX
  go_wp2_with fail
  refine q.mono ?_
  rintro e w9 ⟨m, rfl, hm, hB⟩
  replace hX := hX.trans (hB.mono hX.size)
  replace hR1 := hR1.below hB
  replace hR2 := hR2.below hB
  clear hB q
  have q := kC1 _ hX
  go_wp2_with fail
  refine q.mono ?_
  rintro e w10 ⟨rfl, hB⟩
  replace hX := hX.trans (hB.mono hX.size)
  replace hR1 := hR1.below hB
  replace hR2 := hR2.below hB
  clear hB q
  have q := kC2 _ hX
  go_wp2_with fail
  refine q.mono ?_
  rintro e w11 ⟨rfl, hB⟩
  replace hX := hX.trans (hB.mono hX.size)
  replace hR1 := hR1.below hB
  replace hR2 := hR2.below hB
  clear hB q
  go_wp2_with fail
  refine (kW _).mono ?_
  rintro e w12 ⟨rfl, hw12⟩
  subst hw12
  go_wp2_with fail
  refine (kF2 _ _ (by go_simp) (by go_simp) (by go_simp)).mono ?_
  rintro e w13 ⟨rfl, hw13⟩
  have hB : Below w12.heap.size w12 w13 := by rw [hw13]; exact below_alloc _ _
  replace hX := hX.trans (hB.mono hX.size)
  replace hR1 := hR1.below hB
  replace hR2 := hR2.below hB
  clear hB hw13
  clear kC1 kC2 kD kW kF2 kG kH
  have q := kDr m hm _ hX
  go_wp2_with fail
  refine q.mono ?_
  rintro e w14 ⟨rfl, hB⟩
  replace hX := hX.trans (hB.mono hX.size)
  replace hR1 := hR1.below hB
  replace hR2 := hR2.below hB
  clear hB q
  go_wp2_with fail
  refine (kI m _).mono ?_
  rintro e w15 ⟨rfl, hw15⟩
  subst hw15
  have q := kGr X hXu hXm _ hX
  go_wp2_with fail
  refine q.mono ?_
  rintro e w16 ⟨A3, k3, rfl, hu3, hB⟩
  replace hX := hX.trans (hB.mono hX.size)
  replace hR1 := hR1.below hB
  replace hR2 := hR2.below hB
  clear hB q
  have hXl := hXs X hXu hXm
  have hlong : ¬ (4096 : Int) < (X.length : Int) := by omega
  have kW2 : ∀ W, Calls Tryz.prog 31 #[.bool (decide ((4096 : Int) < (X.length : Int))), .int .i64 5] W fun e w' => e = .returned (.int .i64 0) ∧ w' = W := fun W => by
    rw [decide_eq_false hlong]
    exact when_ok false 5 W
  have kO := fun W (h : Sl W (.slice A3 X.length k3) X) => outCells_ok X _ W h (by unfold maxLen; omega)
  have kF3 := fun blk W => firstL2 0 (outI X) blk 2 W
  rw [fst_zero_two] at kF3
  generalize outI X = o at hR1 kO kF3
  clear hXl hlong hXs kGr hXu hXm
  go_wp2_with fail
  refine (kW2 _).mono ?_
  rintro e w17 ⟨rfl, hw17⟩
  subst hw17
  have q := kO _ hu3
  go_wp2_with fail
  refine q.mono ?_
  rintro e w18 ⟨rfl, hB⟩
  replace hX := hX.trans (hB.mono hX.size)
  replace hR1 := hR1.below hB
  replace hR2 := hR2.below hB
  replace hu3 := hu3.below hB
  clear hB q
  go_wp2_with fail
  refine (kF3 _ _ (by go_simp) (by go_simp)).mono ?_
  rintro e w19 ⟨rfl, hw19⟩
  have hB : Below w18.heap.size w18 w19 := by rw [hw19]; exact below_alloc _ _
  replace hX := hX.trans (hB.mono hX.size)
  replace hR1 := hR1.below hB
  replace hR2 := hR2.below hB
  replace hu3 := hu3.below hB
  clear hB hw19
  clear kW2 kO kF3
  have q := cells_res hR1 hu3 (fun _ => rfl)
  go_wp2_with fail
  refine q.mono ?_
  rintro e w20 ⟨rfl, hB⟩
  replace hX := hX.trans (hB.mono hX.size)
  replace hR1 := hR1.below hB
  replace hR2 := hR2.below hB
  replace hu3 := hu3.below hB
  clear hB q
  clear hR1 hu3
  have q := kHr _ hX
  go_wp2_with fail
  refine q.mono ?_
  rintro e w21 ⟨A4, k4, rfl, hu4, hB⟩
  replace hX := hX.trans (hB.mono hX.size)
  replace hR2 := hR2.below hB
  clear hB q
  have q := cells_res hR2 hu4 (fun _ => rfl)
  go_wp2_with fail
  refine q.mono ?_
  rintro e w22 ⟨rfl, hB⟩
  replace hX := hX.trans (hB.mono hX.size)
  replace hR2 := hR2.below hB
  replace hu4 := hu4.below hB
  clear hB q
  go_wp2
  go_ret
  exact ⟨rfl, hX⟩
theorem ggrows_good_ea (a b : List Cel) (A : Option Addr) (ka : Nat) (B : Option Addr) (kb : Nat) (n : Int) (w : World) (kA : AwakeAt w) (ha : Sl w (.slice A a.length ka) a) (hb : Sl w (.slice B b.length kb) b) (_hkb : b.length ≤ kb) (_hkm : kb ≤ 9223372036854775807) (h1 : shortB a.length 40 = true) (h2 : shortB b.length 40 = true) (c d r2 : Int) (hc : chkI a = c) (hd : chkI b = d) (hw2 : withinI n 0 64 = r2) (hO : c = 0 ∧ r2 = 0) (h3 : n ≤ 3) (la0 : a.length = 0) :
    Calls Tryz.prog 5 #[.slice A a.length ka, .slice B b.length kb, .int .i64 n] w fun e w' => e = .returned (.bool true) ∧ Below w.heap.size w w' := by
  have la := short_len h1 (by omega)
  have lb := short_len h2 (by omega)
  have k0 := kA w (Below.refl _ _)
  have kS1 := fun W => short_true h1 A ka W
  have kS2 := fun W => short_true h2 B kb W
  have kC1 := fun W (h : Below w.heap.size w W) => refCheckG a _ W (ha.below h) (by unfold maxLen; omega)
  have kC2 := fun W (h : Below w.heap.size w W) => refCheckG b _ W (hb.below h) (by unfold maxLen; omega)
  rw [hc] at kC1
  rw [hd] at kC2
  have kR := fun W => checkRange_ok n 0 64 W
  rw [hw2] at kR
  have kF1 := fun blk W => firstL2 c r2 blk 2 W
  have e1 : fstI [c, r2] = 0 := by rw [hO.1, hO.2]; rfl
  rw [e1] at kF1
  have hn0 := within_kept (hw2.trans hO.2)
  obtain ⟨n, rfl⟩ : ∃ k : Nat, n = k := ⟨n.toNat, by omega⟩
  have n3 : n ≤ 3 := by omega
  have l40 : a.length ≤ 40 := by have := (chkI_zero.1 (hc.trans hO.1)).1; omega
  have h3' : ¬ (3 : Int) < (n : Int) := by omega
  have kG := fun W (h : Below w.heap.size w W) => grow_res (ha.below h) (hc.trans hO.1) l40 n3
  have kH := fun W (h : Below w.heap.size w W) => shrink_res (ha.below h) (hc.trans hO.1) n3
  have kGr := fun (X : List Cel) (u : Up X) (m : ∀ c, c ∈ X ↔ c ∈ growN n a) W (h : Below w.heap.size w W) => grow_ref (ha.below h) (hc.trans hO.1) l40 n3 u m
  have kHr := fun W (h : Below w.heap.size w W) => shrink_ref (ha.below h) (hc.trans hO.1) n3
  have hXs := fun (X : List Cel) (u : Up X) (m : ∀ c, c ∈ X ↔ c ∈ growN n a) => grow_small l40 n3 (up_nodup u) (fun c h => (m c).1 h)
  generalize shrN n a = sh at kH kHr
  generalize growN n a = gr at kG kGr hXs
  have ea : (((a.length : Nat) : Int) == 0) = true := by rw [beq_iff_eq]; omega
  have kW := fun W => when_ok true 12 W
  have kF2 := fun blk W => firstL3 c d 12 blk 3 W
  have e2 : apE a b = fstI [c, d, 12] := by unfold apE; rw [hc, hd]; rw [if_pos (by omega)]
  have hT : fstI [c, d, 12] ≠ 0 := by rw [fst_or3]; unfold orI; by_cases q1 : c = 0 <;> by_cases q2 : d = 0 <;> simp [q1, q2]
  have kD := fun W (h : Below w.heap.size w W) => apartG_err a b _ _ W (ha.below h) (hb.below h) (by unfold maxLen; omega) (by unfold maxLen; omega) _ e2 hT
  clear e2
  generalize fstI [c, d, 12] = tw at kF2 kD hT
  have b2 : (tw != 0) = true := by rw [bne_iff_ne]; exact hT
  have b2' : (tw == 0) = false := by rw [beq_eq_false_iff_ne]; exact hT
  have kI := fun W => integer_bad tw hT W
  clear kA ha hb _hkb _hkm h1 h2 la lb hc hd hw2 h3 e1 hn0 l40 n3 la0 hT hO
  go_enter Tryz.func5, Tryz.ntmps5
  go_wp2_with fail
  refine k0.mono ?_
  rintro e w1 ⟨rfl, hX⟩
  clear k0
  go_wp2_with fail
  refine (kS1 _).mono ?_
  rintro e w2 ⟨rfl, hw2⟩
  subst hw2
  go_wp2_with fail
  refine (kS2 _).mono ?_
  rintro e w3 ⟨rfl, hw3⟩
  subst hw3
  have q := kC1 _ hX
  go_wp2_with fail
  refine q.mono ?_
  rintro e w4 ⟨rfl, hB⟩
  replace hX := hX.trans (hB.mono hX.size)
  clear hB q
  go_wp2_with fail
  refine (kR _).mono ?_
  rintro e w5 ⟨rfl, hw5⟩
  subst hw5
  go_wp2_with fail
  refine (kF1 _ _ (by go_simp) (by go_simp)).mono ?_
  rintro e w6 ⟨rfl, hw6⟩
  have hB : Below w5.heap.size w5 w6 := by rw [hw6]; exact below_alloc _ _
  replace hX := hX.trans (hB.mono hX.size)
  clear hB hw6
  clear kS1 kS2 kR kF1
  have q := kG _ hX
  go_wp2_with fail
  refine q.mono ?_
  rintro e w7 ⟨X, A1, n1, k1, E1, hXu, hXm, rfl, hR1, hB⟩
  replace hX := hX.trans (hB.mono hX.size)
  clear hB q
  have q := kH _ hX
  go_wp2_with fail
  refine q.mono ?_
  rintro e w8 ⟨A2, n2, k2, E2, rfl, hR2, hB⟩
  replace hX := hX.trans (hB.mono hX.size)
  replace hR1 := hR1.below hB
  clear hB q
  have q := kD _ hX
  go_wp2_with fail
  refine q.mono ?_
  rintro e w9 ⟨rfl, hB⟩
  replace hX := hX.trans (hB.mono hX.size)
  replace hR1 := hR1.below hB
  replace hR2 := hR2.below hB
  clear hB q
  have q := kC1 _ hX
  go_wp2_with fail
  refine q.mono ?_
  rintro e w10 ⟨rfl, hB⟩
  replace hX := hX.trans (hB.mono hX.size)
  replace hR1 := hR1.below hB
  replace hR2 := hR2.below hB
  clear hB q
  have q := kC2 _ hX
  go_wp2_with fail
  refine q.mono ?_
  rintro e w11 ⟨rfl, hB⟩
  replace hX := hX.trans (hB.mono hX.size)
  replace hR1 := hR1.below hB
  replace hR2 := hR2.below hB
  clear hB q
  go_wp2_with fail
  refine (kW _).mono ?_
  rintro e w12 ⟨rfl, hw12⟩
  subst hw12
  go_wp2_with fail
  refine (kF2 _ _ (by go_simp) (by go_simp) (by go_simp)).mono ?_
  rintro e w13 ⟨rfl, hw13⟩
  have hB : Below w12.heap.size w12 w13 := by rw [hw13]; exact below_alloc _ _
  replace hX := hX.trans (hB.mono hX.size)
  replace hR1 := hR1.below hB
  replace hR2 := hR2.below hB
  clear hB hw13
  clear kC1 kC2 kD kW kF2 kG kH
  go_wp2_with fail
  refine (kI _).mono ?_
  rintro e w14 ⟨rfl, hw14⟩
  subst hw14
  have q := kGr X hXu hXm _ hX
  go_wp2_with fail
  refine q.mono ?_
  rintro e w15 ⟨A3, k3, rfl, hu3, hB⟩
  replace hX := hX.trans (hB.mono hX.size)
  replace hR1 := hR1.below hB
  replace hR2 := hR2.below hB
  clear hB q
  have hXl := hXs X hXu hXm
  have hlong : ¬ (4096 : Int) < (X.length : Int) := by omega
  have kW2 : ∀ W, Calls Tryz.prog 31 #[.bool (decide ((4096 : Int) < (X.length : Int))), .int .i64 5] W fun e w' => e = .returned (.int .i64 0) ∧ w' = W := fun W => by
    rw [decide_eq_false hlong]
    exact when_ok false 5 W
  have kO := fun W (h : Sl W (.slice A3 X.length k3) X) => outCells_ok X _ W h (by unfold maxLen; omega)
  have kF3 := fun blk W => firstL2 0 (outI X) blk 2 W
  rw [fst_zero_two] at kF3
  generalize outI X = o at hR1 kO kF3
  clear hXl hlong hXs kGr hXu hXm
  go_wp2_with fail
  refine (kW2 _).mono ?_
  rintro e w16 ⟨rfl, hw16⟩
  subst hw16
  have q := kO _ hu3
  go_wp2_with fail
  refine q.mono ?_
  rintro e w17 ⟨rfl, hB⟩
  replace hX := hX.trans (hB.mono hX.size)
  replace hR1 := hR1.below hB
  replace hR2 := hR2.below hB
  replace hu3 := hu3.below hB
  clear hB q
  go_wp2_with fail
  refine (kF3 _ _ (by go_simp) (by go_simp)).mono ?_
  rintro e w18 ⟨rfl, hw18⟩
  have hB : Below w17.heap.size w17 w18 := by rw [hw18]; exact below_alloc _ _
  replace hX := hX.trans (hB.mono hX.size)
  replace hR1 := hR1.below hB
  replace hR2 := hR2.below hB
  replace hu3 := hu3.below hB
  clear hB hw18
  clear kW2 kO kF3
  have q := cells_res hR1 hu3 (fun _ => rfl)
  go_wp2_with fail
  refine q.mono ?_
  rintro e w19 ⟨rfl, hB⟩
  replace hX := hX.trans (hB.mono hX.size)
  replace hR1 := hR1.below hB
  replace hR2 := hR2.below hB
  replace hu3 := hu3.below hB
  clear hB q
  clear hR1 hu3
  have q := kHr _ hX
  go_wp2_with fail
  refine q.mono ?_
  rintro e w20 ⟨A4, k4, rfl, hu4, hB⟩
  replace hX := hX.trans (hB.mono hX.size)
  replace hR2 := hR2.below hB
  clear hB q
  have q := cells_res hR2 hu4 (fun _ => rfl)
  go_wp2_with fail
  refine q.mono ?_
  rintro e w21 ⟨rfl, hB⟩
  replace hX := hX.trans (hB.mono hX.size)
  replace hR2 := hR2.below hB
  replace hu4 := hu4.below hB
  clear hB q
  go_wp2
  go_ret
  exact ⟨rfl, hX⟩
theorem ggrows_good_eb (a b : List Cel) (A : Option Addr) (ka : Nat) (B : Option Addr) (kb : Nat) (n : Int) (w : World) (kA : AwakeAt w) (ha : Sl w (.slice A a.length ka) a) (hb : Sl w (.slice B b.length kb) b) (_hkb : b.length ≤ kb) (_hkm : kb ≤ 9223372036854775807) (h1 : shortB a.length 40 = true) (h2 : shortB b.length 40 = true) (c d r2 : Int) (hc : chkI a = c) (hd : chkI b = d) (hw2 : withinI n 0 64 = r2) (hO : c = 0 ∧ r2 = 0) (h3 : n ≤ 3) (la0 : 0 < a.length) (lb0 : b.length = 0) :
    Calls Tryz.prog 5 #[.slice A a.length ka, .slice B b.length kb, .int .i64 n] w fun e w' => e = .returned (.bool true) ∧ Below w.heap.size w w' := by
  have la := short_len h1 (by omega)
  have lb := short_len h2 (by omega)
  have k0 := kA w (Below.refl _ _)
  have kS1 := fun W => short_true h1 A ka W
  have kS2 := fun W => short_true h2 B kb W
  have kC1 := fun W (h : Below w.heap.size w W) => refCheckG a _ W (ha.below h) (by unfold maxLen; omega)
  have kC2 := fun W (h : Below w.heap.size w W) => refCheckG b _ W (hb.below h) (by unfold maxLen; omega)
  rw [hc] at kC1
  rw [hd] at kC2
  have kR := fun W => checkRange_ok n 0 64 W
  rw [hw2] at kR
  have kF1 := fun blk W => firstL2 c r2 blk 2 W
  have e1 : fstI [c, r2] = 0 := by rw [hO.1, hO.2]; rfl
  rw [e1] at kF1
  have hn0 := within_kept (hw2.trans hO.2)
  obtain ⟨n, rfl⟩ : ∃ k : Nat, n = k := ⟨n.toNat, by omega⟩
  have n3 : n ≤ 3 := by omega
  have l40 : a.length ≤ 40 := by have := (chkI_zero.1 (hc.trans hO.1)).1; omega
  have h3' : ¬ (3 : Int) < (n : Int) := by omega
  have kG := fun W (h : Below w.heap.size w W) => grow_res (ha.below h) (hc.trans hO.1) l40 n3
  have kH := fun W (h : Below w.heap.size w W) => shrink_res (ha.below h) (hc.trans hO.1) n3
  have kGr := fun (X : List Cel) (u : Up X) (m : ∀ c, c ∈ X ↔ c ∈ growN n a) W (h : Below w.heap.size w W) => grow_ref (ha.below h) (hc.trans hO.1) l40 n3 u m
  have kHr := fun W (h : Below w.heap.size w W) => shrink_ref (ha.below h) (hc.trans hO.1) n3
  have hXs := fun (X : List Cel) (u : Up X) (m : ∀ c, c ∈ X ↔ c ∈ growN n a) => grow_small l40 n3 (up_nodup u) (fun c h => (m c).1 h)
  generalize shrN n a = sh at kH kHr
  generalize growN n a = gr at kG kGr hXs
  have ea : (((a.length : Nat) : Int) == 0) = false := by rw [beq_eq_false_iff_ne]; omega
  have eb : (((b.length : Nat) : Int) == 0) = true := by rw [beq_iff_eq]; omega
  have kW := fun W => when_ok true 12 W
  have kF2 := fun blk W => firstL3 c d 12 blk 3 W
  have e2 : apE a b = fstI [c, d, 12] := by unfold apE; rw [hc, hd]; rw [if_pos (by omega)]
  have hT : fstI [c, d, 12] ≠ 0 := by rw [fst_or3]; unfold orI; by_cases q1 : c = 0 <;> by_cases q2 : d = 0 <;> simp [q1, q2]
  have kD := fun W (h : Below w.heap.size w W) => apartG_err a b _ _ W (ha.below h) (hb.below h) (by unfold maxLen; omega) (by unfold maxLen; omega) _ e2 hT
  clear e2
  generalize fstI [c, d, 12] = tw at kF2 kD hT
  have b2 : (tw != 0) = true := by rw [bne_iff_ne]; exact hT
  have b2' : (tw == 0) = false := by rw [beq_eq_false_iff_ne]; exact hT
  have kI := fun W => integer_bad tw hT W
  clear kA ha hb _hkb _hkm h1 h2 la lb hc hd hw2 h3 e1 hn0 l40 n3 la0 lb0 hT hO
  go_enter Tryz.func5, Tryz.ntmps5
  go_wp2_with fail
  refine k0.mono ?_
  rintro e w1 ⟨rfl, hX⟩
  clear k0
  go_wp2_with fail
  refine (kS1 _).mono ?_
  rintro e w2 ⟨rfl, hw2⟩
  subst hw2
  go_wp2_with fail
  refine (kS2 _).mono ?_
  rintro e w3 ⟨rfl, hw3⟩
  subst hw3
  have q := kC1 _ hX
  go_wp2_with fail
  refine q.mono ?_
  rintro e w4 ⟨rfl, hB⟩
  replace hX := hX.trans (hB.mono hX.size)
  clear hB q
  go_wp2_with fail
  refine (kR _).mono ?_
  rintro e w5 ⟨rfl, hw5⟩
  subst hw5
  go_wp2_with fail
  refine (kF1 _ _ (by go_simp) (by go_simp)).mono ?_
  rintro e w6 ⟨rfl, hw6⟩
  have hB : Below w5.heap.size w5 w6 := by rw [hw6]; exact below_alloc _ _
  replace hX := hX.trans (hB.mono hX.size)
  clear hB hw6
  clear kS1 kS2 kR kF1
  have q := kG _ hX
  go_wp2_with fail
  refine q.mono ?_
  rintro e w7 ⟨X, A1, n1, k1, E1, hXu, hXm, rfl, hR1, hB⟩
  replace hX := hX.trans (hB.mono hX.size)
  clear hB q
  have q := kH _ hX
  go_wp2_with fail
  refine q.mono ?_
  rintro e w8 ⟨A2, n2, k2, E2, rfl, hR2, hB⟩
  replace hX := hX.trans (hB.mono hX.size)
  replace hR1 := hR1.below hB
  clear hB q
  have q := kD _ hX
  go_wp2_with fail
  refine q.mono ?_
  rintro e w9 ⟨rfl, hB⟩
  replace hX := hX.trans (hB.mono hX.size)
  replace hR1 := hR1.below hB
  replace hR2 := hR2.below hB
  clear hB q
  have q := kC1 _ hX
  go_wp2_with fail
  refine q.mono ?_
  rintro e w10 ⟨rfl, hB⟩
  replace hX := hX.trans (hB.mono hX.size)
  replace hR1 := hR1.below hB
  replace hR2 := hR2.below hB
  clear hB q
  have q := kC2 _ hX
  go_wp2_with fail
  refine q.mono ?_
  rintro e w11 ⟨rfl, hB⟩
  replace hX := hX.trans (hB.mono hX.size)
  replace hR1 := hR1.below hB
  replace hR2 := hR2.below hB
  clear hB q
  go_wp2_with fail
  refine (kW _).mono ?_
  rintro e w12 ⟨rfl, hw12⟩
  subst hw12
  go_wp2_with fail
  refine (kF2 _ _ (by go_simp) (by go_simp) (by go_simp)).mono ?_
  rintro e w13 ⟨rfl, hw13⟩
  have hB : Below w12.heap.size w12 w13 := by rw [hw13]; exact below_alloc _ _
  replace hX := hX.trans (hB.mono hX.size)
  replace hR1 := hR1.below hB
  replace hR2 := hR2.below hB
  clear hB hw13
  clear kC1 kC2 kD kW kF2 kG kH
  go_wp2_with fail
  refine (kI _).mono ?_
  rintro e w14 ⟨rfl, hw14⟩
  subst hw14
  have q := kGr X hXu hXm _ hX
  go_wp2_with fail
  refine q.mono ?_
  rintro e w15 ⟨A3, k3, rfl, hu3, hB⟩
  replace hX := hX.trans (hB.mono hX.size)
  replace hR1 := hR1.below hB
  replace hR2 := hR2.below hB
  clear hB q
  have hXl := hXs X hXu hXm
  have hlong : ¬ (4096 : Int) < (X.length : Int) := by omega
  have kW2 : ∀ W, Calls Tryz.prog 31 #[.bool (decide ((4096 : Int) < (X.length : Int))), .int .i64 5] W fun e w' => e = .returned (.int .i64 0) ∧ w' = W := fun W => by
    rw [decide_eq_false hlong]
    exact when_ok false 5 W
  have kO := fun W (h : Sl W (.slice A3 X.length k3) X) => outCells_ok X _ W h (by unfold maxLen; omega)
  have kF3 := fun blk W => firstL2 0 (outI X) blk 2 W
  rw [fst_zero_two] at kF3
  generalize outI X = o at hR1 kO kF3
  clear hXl hlong hXs kGr hXu hXm
  go_wp2_with fail
  refine (kW2 _).mono ?_
  rintro e w16 ⟨rfl, hw16⟩
  subst hw16
  have q := kO _ hu3
  go_wp2_with fail
  refine q.mono ?_
  rintro e w17 ⟨rfl, hB⟩
  replace hX := hX.trans (hB.mono hX.size)
  replace hR1 := hR1.below hB
  replace hR2 := hR2.below hB
  replace hu3 := hu3.below hB
  clear hB q
  go_wp2_with fail
  refine (kF3 _ _ (by go_simp) (by go_simp)).mono ?_
  rintro e w18 ⟨rfl, hw18⟩
  have hB : Below w17.heap.size w17 w18 := by rw [hw18]; exact below_alloc _ _
  replace hX := hX.trans (hB.mono hX.size)
  replace hR1 := hR1.below hB
  replace hR2 := hR2.below hB
  replace hu3 := hu3.below hB
  clear hB hw18
  clear kW2 kO kF3
  have q := cells_res hR1 hu3 (fun _ => rfl)
  go_wp2_with fail
  refine q.mono ?_
  rintro e w19 ⟨rfl, hB⟩
  replace hX := hX.trans (hB.mono hX.size)
  replace hR1 := hR1.below hB
  replace hR2 := hR2.below hB
  replace hu3 := hu3.below hB
  clear hB q
  clear hR1 hu3
  have q := kHr _ hX
  go_wp2_with fail
  refine q.mono ?_
  rintro e w20 ⟨A4, k4, rfl, hu4, hB⟩
  replace hX := hX.trans (hB.mono hX.size)
  replace hR2 := hR2.below hB
  clear hB q
  have q := cells_res hR2 hu4 (fun _ => rfl)
  go_wp2_with fail
  refine q.mono ?_
  rintro e w21 ⟨rfl, hB⟩
  replace hX := hX.trans (hB.mono hX.size)
  replace hR2 := hR2.below hB
  replace hu4 := hu4.below hB
  clear hB q
  go_wp2
  go_ret
  exact ⟨rfl, hX⟩
theorem ggrows_good_err (a b : List Cel) (A : Option Addr) (ka : Nat) (B : Option Addr) (kb : Nat) (n : Int) (w : World) (kA : AwakeAt w) (ha : Sl w (.slice A a.length ka) a) (hb : Sl w (.slice B b.length kb) b) (_hkb : b.length ≤ kb) (_hkm : kb ≤ 9223372036854775807) (h1 : shortB a.length 40 = true) (h2 : shortB b.length 40 = true) (c d r2 : Int) (hc : chkI a = c) (hd : chkI b = d) (hw2 : withinI n 0 64 = r2) (hO : c = 0 ∧ r2 = 0) (h3 : n ≤ 3) (la0 : 0 < a.length) (lb0 : 0 < b.length) (hT : fstI [c, d, 0] ≠ 0) :
    Calls Tryz.prog 5 #[.slice A a.length ka, .slice B b.length kb, .int .i64 n] w fun e w' => e = .returned (.bool true) ∧ Below w.heap.size w w' := by
  have la := short_len h1 (by omega)
  have lb := short_len h2 (by omega)
  have k0 := kA w (Below.refl _ _)
  have kS1 := fun W => short_true h1 A ka W
  have kS2 := fun W => short_true h2 B kb W
  have kC1 := fun W (h : Below w.heap.size w W) => refCheckG a _ W (ha.below h) (by unfold maxLen; omega)
  have kC2 := fun W (h : Below w.heap.size w W) => refCheckG b _ W (hb.below h) (by unfold maxLen; omega)
  rw [hc] at kC1
  rw [hd] at kC2
  have kR := fun W => checkRange_ok n 0 64 W
  rw [hw2] at kR
  have kF1 := fun blk W => firstL2 c r2 blk 2 W
  have e1 : fstI [c, r2] = 0 := by rw [hO.1, hO.2]; rfl
  rw [e1] at kF1
  have hn0 := within_kept (hw2.trans hO.2)
  obtain ⟨n, rfl⟩ : ∃ k : Nat, n = k := ⟨n.toNat, by omega⟩
  have n3 : n ≤ 3 := by omega
  have l40 : a.length ≤ 40 := by have := (chkI_zero.1 (hc.trans hO.1)).1; omega
  have h3' : ¬ (3 : Int) < (n : Int) := by omega
  have kG := fun W (h : Below w.heap.size w W) => grow_res (ha.below h) (hc.trans hO.1) l40 n3
  have kH := fun W (h : Below w.heap.size w W) => shrink_res (ha.below h) (hc.trans hO.1) n3
  have kGr := fun (X : List Cel) (u : Up X) (m : ∀ c, c ∈ X ↔ c ∈ growN n a) W (h : Below w.heap.size w W) => grow_ref (ha.below h) (hc.trans hO.1) l40 n3 u m
  have kHr := fun W (h : Below w.heap.size w W) => shrink_ref (ha.below h) (hc.trans hO.1) n3
  have hXs := fun (X : List Cel) (u : Up X) (m : ∀ c, c ∈ X ↔ c ∈ growN n a) => grow_small l40 n3 (up_nodup u) (fun c h => (m c).1 h)
  generalize shrN n a = sh at kH kHr
  generalize growN n a = gr at kG kGr hXs
  have ea : (((a.length : Nat) : Int) == 0) = false := by rw [beq_eq_false_iff_ne]; omega
  have eb : (((b.length : Nat) : Int) == 0) = false := by rw [beq_eq_false_iff_ne]; omega
  have kW := fun W => when_ok false 12 W
  have kF2 := fun blk W => firstL3 c d 0 blk 3 W
  have e2 : apE a b = fstI [c, d, 0] := by unfold apE; rw [hc, hd]; rw [if_neg (by omega)]
  have kD := fun W (h : Below w.heap.size w W) => apartG_err a b _ _ W (ha.below h) (hb.below h) (by unfold maxLen; omega) (by unfold maxLen; omega) _ e2 hT
  clear e2
  generalize fstI [c, d, 0] = tw at kF2 kD hT
  have b2 : (tw != 0) = true := by rw [bne_iff_ne]; exact hT
  have b2' : (tw == 0) = false := by rw [beq_eq_false_iff_ne]; exact hT
  have kI := fun W => integer_bad tw hT W
  clear kA ha hb _hkb _hkm h1 h2 la lb hc hd hw2 h3 e1 hn0 l40 n3 la0 lb0 hT hO
  go_enter Tryz.func5, Tryz.ntmps5
  go_wp2_with fail
  refine k0.mono ?_
  rintro e w1 ⟨rfl, hX⟩
  clear k0
  go_wp2_with fail
  refine (kS1 _).mono ?_
  rintro e w2 ⟨rfl, hw2⟩
  subst hw2
  go_wp2_with fail
  refine (kS2 _).mono ?_
  rintro e w3 ⟨rfl, hw3⟩
  subst hw3
  have q := kC1 _ hX
  go_wp2_with fail
  refine q.mono ?_
  rintro e w4 ⟨rfl, hB⟩
  replace hX := hX.trans (hB.mono hX.size)
  clear hB q
  go_wp2_with fail
  refine (kR _).mono ?_
  rintro e w5 ⟨rfl, hw5⟩
  subst hw5
  go_wp2_with fail
  refine (kF1 _ _ (by go_simp) (by go_simp)).mono ?_
  rintro e w6 ⟨rfl, hw6⟩
  have hB : Below w5.heap.size w5 w6 := by rw [hw6]; exact below_alloc _ _
  replace hX := hX.trans (hB.mono hX.size)
  clear hB hw6
  clear kS1 kS2 kR kF1
  have q := kG _ hX
  go_wp2_with fail
  refine q.mono ?_
  rintro e w7 ⟨X, A1, n1, k1, E1, hXu, hXm, rfl, hR1, hB⟩
  replace hX := hX.trans (hB.mono hX.size)
  clear hB q
  have q := kH _ hX
  go_wp2_with fail
  refine q.mono ?_
  rintro e w8 ⟨A2, n2, k2, E2, rfl, hR2, hB⟩
  replace hX := hX.trans (hB.mono hX.size)
  replace hR1 := hR1.below hB
  clear hB q
  have q := kD _ hX
  go_wp2_with fail
  refine q.mono ?_
  rintro e w9 ⟨rfl, hB⟩
  replace hX := hX.trans (hB.mono hX.size)
  replace hR1 := hR1.below hB
  replace hR2 := hR2.below hB
  clear hB q
  have q := kC1 _ hX
  go_wp2_with fail
  refine q.mono ?_
  rintro e w10 ⟨rfl, hB⟩
  replace hX := hX.trans (hB.mono hX.size)
  replace hR1 := hR1.below hB
  replace hR2 := hR2.below hB
  clear hB q
  have q := kC2 _ hX
  go_wp2_with fail
  refine q.mono ?_
  rintro e w11 ⟨rfl, hB⟩
  replace hX := hX.trans (hB.mono hX.size)
  replace hR1 := hR1.below hB
  replace hR2 := hR2.below hB
  clear hB q
  go_wp2_with fail
  refine (kW _).mono ?_
  rintro e w12 ⟨rfl, hw12⟩
  subst hw12
  go_wp2_with fail
  refine (kF2 _ _ (by go_simp) (by go_simp) (by go_simp)).mono ?_
  rintro e w13 ⟨rfl, hw13⟩
  have hB : Below w12.heap.size w12 w13 := by rw [hw13]; exact below_alloc _ _
  replace hX := hX.trans (hB.mono hX.size)
  replace hR1 := hR1.below hB
  replace hR2 := hR2.below hB
  clear hB hw13
  clear kC1 kC2 kD kW kF2 kG kH
  go_wp2_with fail
  refine (kI _).mono ?_
  rintro e w14 ⟨rfl, hw14⟩
  subst hw14
  have q := kGr X hXu hXm _ hX
  go_wp2_with fail
  refine q.mono ?_
  rintro e w15 ⟨A3, k3, rfl, hu3, hB⟩
  replace hX := hX.trans (hB.mono hX.size)
  replace hR1 := hR1.below hB
  replace hR2 := hR2.below hB
  clear hB q
  have hXl := hXs X hXu hXm
  have hlong : ¬ (4096 : Int) < (X.length : Int) := by omega
  have kW2 : ∀ W, Calls Tryz.prog 31 #[.bool (decide ((4096 : Int) < (X.length : Int))), .int .i64 5] W fun e w' => e = .returned (.int .i64 0) ∧ w' = W := fun W => by
    rw [decide_eq_false hlong]
    exact when_ok false 5 W
  have kO := fun W (h : Sl W (.slice A3 X.length k3) X) => outCells_ok X _ W h (by unfold maxLen; omega)
  have kF3 := fun blk W => firstL2 0 (outI X) blk 2 W
  rw [fst_zero_two] at kF3
  generalize outI X = o at hR1 kO kF3
  clear hXl hlong hXs kGr hXu hXm
  go_wp2_with fail
  refine (kW2 _).mono ?_
  rintro e w16 ⟨rfl, hw16⟩
  subst hw16
  have q := kO _ hu3
  go_wp2_with fail
  refine q.mono ?_
  rintro e w17 ⟨rfl, hB⟩
  replace hX := hX.trans (hB.mono hX.size)
  replace hR1 := hR1.below hB
  replace hR2 := hR2.below hB
  replace hu3 := hu3.below hB
  clear hB q
  go_wp2_with fail
  refine (kF3 _ _ (by go_simp) (by go_simp)).mono ?_
  rintro e w18 ⟨rfl, hw18⟩
  have hB : Below w17.heap.size w17 w18 := by rw [hw18]; exact below_alloc _ _
  replace hX := hX.trans (hB.mono hX.size)
  replace hR1 := hR1.below hB
  replace hR2 := hR2.below hB
  replace hu3 := hu3.below hB
  clear hB hw18
  clear kW2 kO kF3
  have q := cells_res hR1 hu3 (fun _ => rfl)
  go_wp2_with fail
  refine q.mono ?_
  rintro e w19 ⟨rfl, hB⟩
  replace hX := hX.trans (hB.mono hX.size)
  replace hR1 := hR1.below hB
  replace hR2 := hR2.below hB
  replace hu3 := hu3.below hB
  clear hB q
  clear hR1 hu3
  have q := kHr _ hX
  go_wp2_with fail
  refine q.mono ?_
  rintro e w20 ⟨A4, k4, rfl, hu4, hB⟩
  replace hX := hX.trans (hB.mono hX.size)
  replace hR2 := hR2.below hB
  clear hB q
  have q := cells_res hR2 hu4 (fun _ => rfl)
  go_wp2_with fail
  refine q.mono ?_
  rintro e w21 ⟨rfl, hB⟩
  replace hX := hX.trans (hB.mono hX.size)
  replace hR2 := hR2.below hB
  replace hu4 := hu4.below hB
  clear hB q
  go_wp2
  go_ret
  exact ⟨rfl, hX⟩
end Go.Proofs
