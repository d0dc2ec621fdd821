/- GridSets: the walk. -/
import Derived.Test.YtedjohdoenncbaaGreatDoorG2
import Derived.Test.YtedjohdoenncbaaGreatDoorStG
namespace Go.Proofs
open Go.RowKit
set_option maxHeartbeats 16000000
set_option maxRecDepth 1000000
theorem fst_or (a b : Int) : fstI [a, b] = orI a b 0 := by
  unfold orI
  simp only [fstI]
  by_cases h1 : a = 0 <;> by_cases h2 : b = 0 <;> simp [h1, h2]
theorem firstL2 (a b : Int) (blk cap : Nat) (w : World) (h0 : w.cell? ⟨blk, 0, none⟩ = some (.int .i64 a)) (h1 : w.cell? ⟨blk, 1, none⟩ = some (.int .i64 b)) :
    Calls Tryz.prog 12 #[.slice (some ⟨blk, 0, none⟩) 2 cap] w fun e w' => e = .returned (.int .i64 (fstI [a, b])) ∧ w' = w :=
  firstL_ok [a, b] blk cap w (by simp) fun k x hk => by
    match k, hk with
    | 0, hk => simp at hk; subst hk; exact h0
    | 1, hk => simp at hk; subst hk; exact h1
    | k + 2, hk => simp at hk
/-- What awake says, from any world behind the first one. -/
def AwakeAt (w : World) : Prop := ∀ W, Below w.heap.size w W → Calls Tryz.prog 9 #[] W fun e w' => e = .returned (.bool true) ∧ Below W.heap.size W w'
theorem short_true {n : Nat} {m : Int} (h : shortB n m = true) (A : Option Addr) (cap : Nat) (w : World) : Calls Tryz.prog 10 #[.slice A n cap, .int .i64 m] w fun e w' => e = .returned (.bool true) ∧ w' = w := by
  have := short_ok A n cap m w
  rwa [h] at this
theorem short_false {n : Nat} {m : Int} (h : shortB n m = false) (A : Option Addr) (cap : Nat) (w : World) : Calls Tryz.prog 10 #[.slice A n cap, .int .i64 m] w fun e w' => e = .returned (.bool false) ∧ w' = w := by
  have := short_ok A n cap m w
  rwa [h] at this
theorem short_len {n : Nat} {m : Int} (h : shortB n m = true) (hm : m ≤ 4096) : n ≤ 4098 ∧ (n ≤ 4096 → (n : Int) ≤ m) := by
  unfold shortB at h
  simp only [Bool.or_eq_true, Bool.and_eq_true, decide_eq_true_eq] at h
  omega
theorem gsets_out1 (A B : Option Addr) (n m ka kb : Nat) (w : World) (kA : AwakeAt w) (h1 : shortB n 80 = false) :
    Calls Tryz.prog 3 #[.slice A n ka, .slice B m kb] w fun e w' => e = .returned (.bool true) ∧ Below w.heap.size w w' := by
  have k0 := kA w (Below.refl _ _)
  have k1 := fun W => short_false h1 A ka W
  clear h1
  go_enter Tryz.func3, Tryz.ntmps3
  go_wp2_with fail
  refine k0.mono ?_
  rintro e w1 ⟨rfl, hK1⟩
  go_wp2_with fail
  refine (k1 _).mono ?_
  rintro e w' ⟨rfl, rfl⟩
  have k2 := kA w' hK1
  go_wp2_with fail
  refine k2.mono ?_
  rintro e w2 ⟨rfl, hB2⟩
  go_wp2
  go_ret
  exact ⟨rfl, hK1.trans (hB2.mono hK1.size)⟩
theorem gsets_out2 (A B : Option Addr) (n m ka kb : Nat) (w : World) (kA : AwakeAt w) (h1 : shortB n 80 = true) (h2 : shortB m 80 = false) :
    Calls Tryz.prog 3 #[.slice A n ka, .slice B m kb] w fun e w' => e = .returned (.bool true) ∧ Below w.heap.size w w' := by
  have k0 := kA w (Below.refl _ _)
  have k1 := fun W => short_true h1 A ka W
  have k1' := fun W => short_false h2 B kb W
  clear h1 h2
  go_enter Tryz.func3, Tryz.ntmps3
  go_wp2_with fail
  refine k0.mono ?_
  rintro e w1 ⟨rfl, hK1⟩
  go_wp2_with fail
  refine (k1 _).mono ?_
  rintro e w' ⟨rfl, rfl⟩
  go_wp2_with fail
  refine (k1' _).mono ?_
  rintro e w'' ⟨rfl, rfl⟩
  have k2 := kA w'' hK1
  go_wp2_with fail
  refine k2.mono ?_
  rintro e w2 ⟨rfl, hB2⟩
  go_wp2
  go_ret
  exact ⟨rfl, hK1.trans (hB2.mono hK1.size)⟩
theorem gsets_1 (a b : List Cel) (A B : Option Addr) (ka kb : Nat) (w : World) (kA : AwakeAt w) (ha : Sl w (.slice A a.length ka) a) (hb : Sl w (.slice B b.length kb) b) (_hkb : b.length ≤ kb) (_hkm : kb ≤ 9223372036854775807) (h1 : shortB a.length 80 = true) (h2 : shortB b.length 80 = true) (hn : 4096 < a.length) (two : Int) (htwo : fstI [chkI a, chkI b] = two) (h0 : two ≠ 0) :
    Calls Tryz.prog 3 #[.slice A a.length ka, .slice B b.length kb] w fun e w' => e = .returned (.bool true) ∧ Below w.heap.size w w' := by
  have la := short_len h1 (by omega)
  have lb := short_len h2 (by omega)
  have k0 := kA w (Below.refl _ _)
  have kS1 := fun W => short_true h1 A ka W
  have kS2 := fun W => short_true h2 B kb W
  have kC1 := fun W (h : Below w.heap.size w W) => refCheckG a _ W (ha.below h) (by unfold maxLen; omega)
  have kC2 := fun W (h : Below w.heap.size w W) => refCheckG b _ W (hb.below h) (by unfold maxLen; omega)
  have kG1 := fun W (h : Below w.heap.size w W) => gridCheckG a _ W (ha.below h) (by unfold maxLen; omega)
  have kO := fun W (h : Below w.heap.size w W) => outCells_ok a _ W (ha.below h) (by unfold maxLen; omega)
  have kF1 := fun blk W => firstL2 (chkI a) (chkI b) blk 2 W
  have hlong : (4096 : Int) < a.length := by omega
  have kSo := fun W => gSorted_many A a.length ka W hn
  have kW := fun W => when_ok true 5 W
  have kF2 := fun blk W => firstL2 5 (outI a) blk 2 W
  have e5 : fstI [5, outI a] = 5 := by simp [fstI]
  rw [e5] at kF2
  generalize outI a = ro at kO kF2
  have kBad := fun W => cells_bad none none 0 0 0 5 (by decide) W
  have kU := fun W (h : Below w.heap.size w W) => unionG_bad1 a b _ _ W (ha.below h) (hb.below h) (by unfold maxLen; omega) (by unfold maxLen; omega) two (by rw [← fst_or]; exact htwo) h0
  have kC := fun W (h : Below w.heap.size w W) => cut_bad a b _ _ W (ha.below h) (hb.below h) (by unfold maxLen; omega) (by unfold maxLen; omega) two (by rw [← fst_or]; exact htwo) h0
  have kL := fun W (h : Below w.heap.size w W) => less_bad a b _ _ W (ha.below h) (hb.below h) (by unfold maxLen; omega) (by unfold maxLen; omega) two (by rw [← fst_or]; exact htwo) h0
  have kBad2 := fun W => cells_bad none none 0 0 0 two h0 W
  rw [htwo] at kF1
  have hne : (two != 0) = true := by simpa using h0
  generalize chkI a = ra at kC1 kG1 kF1 htwo
  generalize chkI b = rb at kC2 kF1 htwo
  clear htwo h0
  clear ha hb h1 h2 lb _hkb _hkm hn la e5
  go_enter Tryz.func3, Tryz.ntmps3
  go_wp2_with fail
  refine k0.mono ?_
  rintro e w1 ⟨rfl, hK1⟩
  go_wp2_with fail
  refine (kS1 _).mono ?_
  rintro e w1a ⟨rfl, rfl⟩
  go_wp2_with fail
  refine (kS2 _).mono ?_
  rintro e w1b ⟨rfl, rfl⟩
  have q1 := kC1 _ hK1
  go_wp2_with fail
  refine q1.mono ?_
  rintro e w2 ⟨rfl, hB2⟩
  have hK2 := hK1.trans (hB2.mono hK1.size)
  clear hB2
  have q2 := kC2 _ hK2
  go_wp2_with fail
  refine q2.mono ?_
  rintro e w3 ⟨rfl, hB3⟩
  have hK3 := hK2.trans (hB3.mono hK2.size)
  clear hB3
  go_wp2_with fail
  refine (kF1 _ _ (by go_simp) (by go_simp)).mono ?_
  rintro e w4 ⟨rfl, hw4⟩
  have hK4 : Below w.heap.size w w4 := by subst hw4; exact hK3.alloc hK3.size _
  clear hw4
  have q3 := kG1 _ hK4
  go_wp2_with fail
  refine q3.mono ?_
  rintro e w5 ⟨rfl, hB5⟩
  have hK5 := hK4.trans (hB5.mono hK4.size)
  clear hB5
  go_wp2_with fail
  refine (kSo _).mono ?_
  rintro e w6 ⟨rfl, hw6⟩
  subst hw6
  have hK6 := hK5
  have q5 := kU _ hK6
  go_wp2_with fail
  refine q5.mono ?_
  rintro e w7 ⟨rfl, hB7⟩
  have hK7 := hK6.trans (hB7.mono hK6.size)
  clear hB7
  have q6 := kC _ hK7
  go_wp2_with fail
  refine q6.mono ?_
  rintro e w8 ⟨rfl, hB8⟩
  have hK8 := hK7.trans (hB8.mono hK7.size)
  clear hB8
  have q7 := kL _ hK8
  go_wp2_with fail
  refine q7.mono ?_
  rintro e w9 ⟨rfl, hB9⟩
  have hK9 := hK8.trans (hB9.mono hK8.size)
  clear hB9
  go_wp2_with fail
  refine (kW _).mono ?_
  rintro e w9a ⟨rfl, hw9a⟩
  subst hw9a
  have q8 := kO _ hK9
  go_wp2_with fail
  refine q8.mono ?_
  rintro e w10 ⟨rfl, hB10⟩
  have hK10 := hK9.trans (hB10.mono hK9.size)
  clear hB10
  go_wp2_with fail
  refine (kF2 _ _ (by go_simp) (by go_simp)).mono ?_
  rintro e w11 ⟨rfl, hw11⟩
  have hB11 : Below w10.heap.size w10 w11 := by subst hw11; exact (Below.refl _ _).alloc (Nat.le_refl _) _
  have hK11 := hK10.trans (hB11.mono hK10.size)
  clear hw11 hB11
  go_wp2_with fail
  refine (kBad _).mono ?_
  rintro e w12 ⟨rfl, hw12⟩
  subst hw12
  go_wp2_with fail
  refine (kBad2 _).mono ?_
  rintro e w20 ⟨rfl, hw20⟩
  subst hw20
  go_wp2_with fail
  refine (kBad2 _).mono ?_
  rintro e w21 ⟨rfl, hw21⟩
  subst hw21
  go_wp2_with fail
  refine (kBad2 _).mono ?_
  rintro e w22 ⟨rfl, hw22⟩
  subst hw22
  go_wp2
  go_ret
  exact ⟨rfl, hK11⟩
theorem gsets_2 (a b : List Cel) (A B : Option Addr) (ka kb : Nat) (w : World) (kA : AwakeAt w) (ha : Sl w (.slice A a.length ka) a) (hb : Sl w (.slice B b.length kb) b) (_hkb : b.length ≤ kb) (_hkm : kb ≤ 9223372036854775807) (h1 : shortB a.length 80 = true) (h2 : shortB b.length 80 = true) (hn : a.length ≤ 4096) (ho : outI a = 3) (two : Int) (htwo : fstI [chkI a, chkI b] = two) (h0 : two ≠ 0) :
    Calls Tryz.prog 3 #[.slice A a.length ka, .slice B b.length kb] w fun e w' => e = .returned (.bool true) ∧ Below w.heap.size w w' := by
  have la := short_len h1 (by omega)
  have lb := short_len h2 (by omega)
  have k0 := kA w (Below.refl _ _)
  have kS1 := fun W => short_true h1 A ka W
  have kS2 := fun W => short_true h2 B kb W
  have kC1 := fun W (h : Below w.heap.size w W) => refCheckG a _ W (ha.below h) (by unfold maxLen; omega)
  have kC2 := fun W (h : Below w.heap.size w W) => refCheckG b _ W (hb.below h) (by unfold maxLen; omega)
  have kG1 := fun W (h : Below w.heap.size w W) => gridCheckG a _ W (ha.below h) (by unfold maxLen; omega)
  have kO := fun W (h : Below w.heap.size w W) => outCells_ok a _ W (ha.below h) (by unfold maxLen; omega)
  have kF1 := fun blk W => firstL2 (chkI a) (chkI b) blk 2 W
  have hlong : ¬ (4096 : Int) < a.length := by omega
  have kSo := fun W (h : Below w.heap.size w W) => gSorted_bad a _ W (ha.below h) hn ho
  have kW : ∀ W, Calls Tryz.prog 18 #[.bool (decide ((4096 : Int) < (a.length : Int))), .int .i64 5] W fun e w' => e = .returned (.int .i64 0) ∧ w' = W := fun W => by
    rw [decide_eq_false hlong]
    exact when_ok false 5 W
  rw [ho] at kO
  have kF2 := fun blk W => firstL2 0 3 blk 2 W
  have e5 : fstI [0, 3] = 3 := by simp [fstI]
  rw [e5] at kF2
  have kBad := fun W => cells_bad none none 0 0 0 3 (by decide) W
  have kU := fun W (h : Below w.heap.size w W) => unionG_bad1 a b _ _ W (ha.below h) (hb.below h) (by unfold maxLen; omega) (by unfold maxLen; omega) two (by rw [← fst_or]; exact htwo) h0
  have kC := fun W (h : Below w.heap.size w W) => cut_bad a b _ _ W (ha.below h) (hb.below h) (by unfold maxLen; omega) (by unfold maxLen; omega) two (by rw [← fst_or]; exact htwo) h0
  have kL := fun W (h : Below w.heap.size w W) => less_bad a b _ _ W (ha.below h) (hb.below h) (by unfold maxLen; omega) (by unfold maxLen; omega) two (by rw [← fst_or]; exact htwo) h0
  have kBad2 := fun W => cells_bad none none 0 0 0 two h0 W
  rw [htwo] at kF1
  have hne : (two != 0) = true := by simpa using h0
  generalize chkI a = ra at kC1 kG1 kF1 htwo
  generalize chkI b = rb at kC2 kF1 htwo
  clear htwo h0
  clear ha hb h1 h2 lb _hkb _hkm ho hn e5
  go_enter Tryz.func3, Tryz.ntmps3
  go_wp2_with fail
  refine k0.mono ?_
  rintro e w1 ⟨rfl, hK1⟩
  go_wp2_with fail
  refine (kS1 _).mono ?_
  rintro e w1a ⟨rfl, rfl⟩
  go_wp2_with fail
  refine (kS2 _).mono ?_
  rintro e w1b ⟨rfl, rfl⟩
  have q1 := kC1 _ hK1
  go_wp2_with fail
  refine q1.mono ?_
  rintro e w2 ⟨rfl, hB2⟩
  have hK2 := hK1.trans (hB2.mono hK1.size)
  clear hB2
  have q2 := kC2 _ hK2
  go_wp2_with fail
  refine q2.mono ?_
  rintro e w3 ⟨rfl, hB3⟩
  have hK3 := hK2.trans (hB3.mono hK2.size)
  clear hB3
  go_wp2_with fail
  refine (kF1 _ _ (by go_simp) (by go_simp)).mono ?_
  rintro e w4 ⟨rfl, hw4⟩
  have hK4 : Below w.heap.size w w4 := by subst hw4; exact hK3.alloc hK3.size _
  clear hw4
  have q3 := kG1 _ hK4
  go_wp2_with fail
  refine q3.mono ?_
  rintro e w5 ⟨rfl, hB5⟩
  have hK5 := hK4.trans (hB5.mono hK4.size)
  clear hB5
  have q4 := kSo _ hK5
  go_wp2_with fail
  refine q4.mono ?_
  rintro e w6 ⟨rfl, hB6⟩
  have hK6 := hK5.trans (hB6.mono hK5.size)
  clear hB6
  have q5 := kU _ hK6
  go_wp2_with fail
  refine q5.mono ?_
  rintro e w7 ⟨rfl, hB7⟩
  have hK7 := hK6.trans (hB7.mono hK6.size)
  clear hB7
  have q6 := kC _ hK7
  go_wp2_with fail
  refine q6.mono ?_
  rintro e w8 ⟨rfl, hB8⟩
  have hK8 := hK7.trans (hB8.mono hK7.size)
  clear hB8
  have q7 := kL _ hK8
  go_wp2_with fail
  refine q7.mono ?_
  rintro e w9 ⟨rfl, hB9⟩
  have hK9 := hK8.trans (hB9.mono hK8.size)
  clear hB9
  go_wp2_with fail
  refine (kW _).mono ?_
  rintro e w9a ⟨rfl, hw9a⟩
  subst hw9a
  have q8 := kO _ hK9
  go_wp2_with fail
  refine q8.mono ?_
  rintro e w10 ⟨rfl, hB10⟩
  have hK10 := hK9.trans (hB10.mono hK9.size)
  clear hB10
  go_wp2_with fail
  refine (kF2 _ _ (by go_simp) (by go_simp)).mono ?_
  rintro e w11 ⟨rfl, hw11⟩
  have hB11 : Below w10.heap.size w10 w11 := by subst hw11; exact (Below.refl _ _).alloc (Nat.le_refl _) _
  have hK11 := hK10.trans (hB11.mono hK10.size)
  clear hw11 hB11
  go_wp2_with fail
  refine (kBad _).mono ?_
  rintro e w12 ⟨rfl, hw12⟩
  subst hw12
  go_wp2_with fail
  refine (kBad2 _).mono ?_
  rintro e w20 ⟨rfl, hw20⟩
  subst hw20
  go_wp2_with fail
  refine (kBad2 _).mono ?_
  rintro e w21 ⟨rfl, hw21⟩
  subst hw21
  go_wp2_with fail
  refine (kBad2 _).mono ?_
  rintro e w22 ⟨rfl, hw22⟩
  subst hw22
  go_wp2
  go_ret
  exact ⟨rfl, hK11⟩
theorem gsets_3 (a b : List Cel) (A B : Option Addr) (ka kb : Nat) (w : World) (kA : AwakeAt w) (ha : Sl w (.slice A a.length ka) a) (hb : Sl w (.slice B b.length kb) b) (_hkb : b.length ≤ kb) (_hkm : kb ≤ 9223372036854775807) (h1 : shortB a.length 80 = true) (h2 : shortB b.length 80 = true) (hn : a.length ≤ 4096) (ho : outI a = 0) (two : Int) (htwo : fstI [chkI a, chkI b] = two) (h0 : two ≠ 0) :
    Calls Tryz.prog 3 #[.slice A a.length ka, .slice B b.length kb] w fun e w' => e = .returned (.bool true) ∧ Below w.heap.size w w' := by
  have la := short_len h1 (by omega)
  have lb := short_len h2 (by omega)
  have k0 := kA w (Below.refl _ _)
  have kS1 := fun W => short_true h1 A ka W
  have kS2 := fun W => short_true h2 B kb W
  have kC1 := fun W (h : Below w.heap.size w W) => refCheckG a _ W (ha.below h) (by unfold maxLen; omega)
  have kC2 := fun W (h : Below w.heap.size w W) => refCheckG b _ W (hb.below h) (by unfold maxLen; omega)
  have kG1 := fun W (h : Below w.heap.size w W) => gridCheckG a _ W (ha.below h) (by unfold maxLen; omega)
  have kO := fun W (h : Below w.heap.size w W) => outCells_ok a _ W (ha.below h) (by unfold maxLen; omega)
  have kF1 := fun blk W => firstL2 (chkI a) (chkI b) blk 2 W
  have hlong : ¬ (4096 : Int) < a.length := by omega
  have kSo := fun W (h : Below w.heap.size w W) => gSorted_ok a _ W (ha.below h) hn ho
  have kW : ∀ W, Calls Tryz.prog 18 #[.bool (decide ((4096 : Int) < (a.length : Int))), .int .i64 5] W fun e w' => e = .returned (.int .i64 0) ∧ w' = W := fun W => by
    rw [decide_eq_false hlong]
    exact when_ok false 5 W
  rw [ho] at kO
  have kF2 := fun blk W => firstL2 0 0 blk 2 W
  have e5 : fstI [0, 0] = 0 := by simp [fstI]
  rw [e5] at kF2
  have kRS := fun W (h : Below w.heap.size w W) => refSorted_ok a _ W (ha.below h) (by omega)
  have kU := fun W (h : Below w.heap.size w W) => unionG_bad1 a b _ _ W (ha.below h) (hb.below h) (by unfold maxLen; omega) (by unfold maxLen; omega) two (by rw [← fst_or]; exact htwo) h0
  have kC := fun W (h : Below w.heap.size w W) => cut_bad a b _ _ W (ha.below h) (hb.below h) (by unfold maxLen; omega) (by unfold maxLen; omega) two (by rw [← fst_or]; exact htwo) h0
  have kL := fun W (h : Below w.heap.size w W) => less_bad a b _ _ W (ha.below h) (hb.below h) (by unfold maxLen; omega) (by unfold maxLen; omega) two (by rw [← fst_or]; exact htwo) h0
  have kBad2 := fun W => cells_bad none none 0 0 0 two h0 W
  rw [htwo] at kF1
  have hne : (two != 0) = true := by simpa using h0
  generalize chkI a = ra at kC1 kG1 kF1 htwo
  generalize chkI b = rb at kC2 kF1 htwo
  clear htwo h0
  clear ha hb h1 h2 lb _hkb _hkm ho e5
  go_enter Tryz.func3, Tryz.ntmps3
  go_wp2_with fail
  refine k0.mono ?_
  rintro e w1 ⟨rfl, hK1⟩
  go_wp2_with fail
  refine (kS1 _).mono ?_
  rintro e w1a ⟨rfl, rfl⟩
  go_wp2_with fail
  refine (kS2 _).mono ?_
  rintro e w1b ⟨rfl, rfl⟩
  have q1 := kC1 _ hK1
  go_wp2_with fail
  refine q1.mono ?_
  rintro e w2 ⟨rfl, hB2⟩
  have hK2 := hK1.trans (hB2.mono hK1.size)
  clear hB2
  have q2 := kC2 _ hK2
  go_wp2_with fail
  refine q2.mono ?_
  rintro e w3 ⟨rfl, hB3⟩
  have hK3 := hK2.trans (hB3.mono hK2.size)
  clear hB3
  go_wp2_with fail
  refine (kF1 _ _ (by go_simp) (by go_simp)).mono ?_
  rintro e w4 ⟨rfl, hw4⟩
  have hK4 : Below w.heap.size w w4 := by subst hw4; exact hK3.alloc hK3.size _
  clear hw4
  have q3 := kG1 _ hK4
  go_wp2_with fail
  refine q3.mono ?_
  rintro e w5 ⟨rfl, hB5⟩
  have hK5 := hK4.trans (hB5.mono hK4.size)
  clear hB5
  have q4 := kSo _ hK5
  go_wp2_with fail
  refine q4.mono ?_
  rintro e w6 ⟨B1, out1, rfl, hBB1, hF1, hup1, hmem1, hB6⟩
  have hK6 := hK5.trans (hB6.mono hK5.size)
  have hS1 : Sl w6 (.slice (some ⟨B1, 0, none⟩) out1.length out1.length) out1 := Sl.row hF1.row hF1.lt
  have hl1 : out1.length ≤ 4096 := Nat.le_trans (up_len_le hup1 fun x hx => (hmem1 x).1 hx) hn
  clear hB6 hF1 hBB1
  have q5 := kU _ hK6
  go_wp2_with fail
  refine q5.mono ?_
  rintro e w7 ⟨rfl, hB7⟩
  have hK7 := hK6.trans (hB7.mono hK6.size)
  replace hS1 := hS1.below hB7
  clear hB7
  have q6 := kC _ hK7
  go_wp2_with fail
  refine q6.mono ?_
  rintro e w8 ⟨rfl, hB8⟩
  have hK8 := hK7.trans (hB8.mono hK7.size)
  replace hS1 := hS1.below hB8
  clear hB8
  have q7 := kL _ hK8
  go_wp2_with fail
  refine q7.mono ?_
  rintro e w9 ⟨rfl, hB9⟩
  have hK9 := hK8.trans (hB9.mono hK8.size)
  replace hS1 := hS1.below hB9
  clear hB9
  go_wp2_with fail
  refine (kW _).mono ?_
  rintro e w9a ⟨rfl, hw9a⟩
  subst hw9a
  have q8 := kO _ hK9
  go_wp2_with fail
  refine q8.mono ?_
  rintro e w10 ⟨rfl, hB10⟩
  have hK10 := hK9.trans (hB10.mono hK9.size)
  replace hS1 := hS1.below hB10
  clear hB10
  go_wp2_with fail
  refine (kF2 _ _ (by go_simp) (by go_simp)).mono ?_
  rintro e w11 ⟨rfl, hw11⟩
  have hB11 : Below w10.heap.size w10 w11 := by subst hw11; exact (Below.refl _ _).alloc (Nat.le_refl _) _
  have hK11 := hK10.trans (hB11.mono hK10.size)
  replace hS1 := hS1.below hB11
  clear hw11 hB11
  have q9 := kRS _ hK11
  go_wp2_with fail
  refine q9.mono ?_
  rintro e w12 ⟨v5, out5, rfl, ho5, hup5, hmem5, hB12⟩
  have hK12 := hK11.trans (hB12.mono hK11.size)
  obtain rfl : out5 = out1 := up_ext hup5 hup1 fun x => (hmem5 x).trans (hmem1 x).symm
  replace hS1 := hS1.below hB12
  have q10 := cells_same out5 _ _ _ hS1 ho5.sl hl1
  clear hB12 ho5
  go_wp2_with fail
  refine q10.mono ?_
  rintro e w13 ⟨rfl, hB13⟩
  have hK13 := hK12.trans (hB13.mono hK12.size)
  clear hB13
  go_wp2_with fail
  refine (kBad2 _).mono ?_
  rintro e w20 ⟨rfl, hw20⟩
  subst hw20
  go_wp2_with fail
  refine (kBad2 _).mono ?_
  rintro e w21 ⟨rfl, hw21⟩
  subst hw21
  go_wp2_with fail
  refine (kBad2 _).mono ?_
  rintro e w22 ⟨rfl, hw22⟩
  subst hw22
  go_wp2
  go_ret
  exact ⟨rfl, hK13⟩
theorem gsets_4 (a b : List Cel) (A B : Option Addr) (ka kb : Nat) (w : World) (kA : AwakeAt w) (ha : Sl w (.slice A a.length ka) a) (hb : Sl w (.slice B b.length kb) b) (hkb : b.length ≤ kb) (hkm : kb ≤ 9223372036854775807) (h1 : shortB a.length 80 = true) (h2 : shortB b.length 80 = true) (hn : a.length ≤ 4096) (ho : outI a = 0) (ca : chkI a = 0) (cb : chkI b = 0) :
    Calls Tryz.prog 3 #[.slice A a.length ka, .slice B b.length kb] w fun e w' => e = .returned (.bool true) ∧ Below w.heap.size w w' := by
  have la := short_len h1 (by omega)
  have lb := short_len h2 (by omega)
  have k0 := kA w (Below.refl _ _)
  have kS1 := fun W => short_true h1 A ka W
  have kS2 := fun W => short_true h2 B kb W
  have kC1 := fun W (h : Below w.heap.size w W) => refCheckG a _ W (ha.below h) (by unfold maxLen; omega)
  have kC2 := fun W (h : Below w.heap.size w W) => refCheckG b _ W (hb.below h) (by unfold maxLen; omega)
  have kG1 := fun W (h : Below w.heap.size w W) => gridCheckG a _ W (ha.below h) (by unfold maxLen; omega)
  have kO := fun W (h : Below w.heap.size w W) => outCells_ok a _ W (ha.below h) (by unfold maxLen; omega)
  have kF1 := fun blk W => firstL2 (chkI a) (chkI b) blk 2 W
  have hlong : ¬ (4096 : Int) < a.length := by omega
  have kSo := fun W (h : Below w.heap.size w W) => gSorted_ok a _ W (ha.below h) hn ho
  have kW : ∀ W, Calls Tryz.prog 18 #[.bool (decide ((4096 : Int) < (a.length : Int))), .int .i64 5] W fun e w' => e = .returned (.int .i64 0) ∧ w' = W := fun W => by
    rw [decide_eq_false hlong]
    exact when_ok false 5 W
  rw [ho] at kO
  have kF2 := fun blk W => firstL2 0 0 blk 2 W
  have e5 : fstI [0, 0] = 0 := by simp [fstI]
  rw [e5] at kF2
  have kRS := fun W (h : Below w.heap.size w W) => refSorted_ok a _ W (ha.below h) (by omega)
  have kU := fun W (h : Below w.heap.size w W) => unionG_ok a b _ _ W (ha.below h) (hb.below h) ca cb
  have kC := fun W (h : Below w.heap.size w W) => cut_ok a b _ B kb W (ha.below h) (hb.below h) hkb hkm ca cb
  have kL := fun W (h : Below w.heap.size w W) => less_ok a b _ B kb W (ha.below h) (hb.below h) hkb hkm ca cb
  have kRU := fun W (h : Below w.heap.size w W) => refUnion_ok a b _ _ W (ha.below h) (hb.below h) (by omega) (by omega)
  have kRC := fun W (h : Below w.heap.size w W) => refCut_ok a b _ _ W (ha.below h) (hb.below h) (by omega) (by omega)
  have kRL := fun W (h : Below w.heap.size w W) => refLess_ok a b _ _ W (ha.below h) (hb.below h) (by omega) (by omega)
  have e2 : fstI [chkI a, chkI b] = 0 := by rw [ca, cb]; simp [fstI]
  rw [e2] at kF1
  rw [ca] at kC1 kG1 kF1
  rw [cb] at kC2 kF1
  have l1 := lb.2 (chk_len cb)
  have l2 := la.2 (chk_len ca)
  clear ha hb h1 h2 lb hkb hkm ho e5 ca cb e2
  go_enter Tryz.func3, Tryz.ntmps3
  go_wp2_with fail
  refine k0.mono ?_
  rintro e w1 ⟨rfl, hK1⟩
  go_wp2_with fail
  refine (kS1 _).mono ?_
  rintro e w1a ⟨rfl, rfl⟩
  go_wp2_with fail
  refine (kS2 _).mono ?_
  rintro e w1b ⟨rfl, rfl⟩
  have q1 := kC1 _ hK1
  go_wp2_with fail
  refine q1.mono ?_
  rintro e w2 ⟨rfl, hB2⟩
  have hK2 := hK1.trans (hB2.mono hK1.size)
  clear hB2
  have q2 := kC2 _ hK2
  go_wp2_with fail
  refine q2.mono ?_
  rintro e w3 ⟨rfl, hB3⟩
  have hK3 := hK2.trans (hB3.mono hK2.size)
  clear hB3
  go_wp2_with fail
  refine (kF1 _ _ (by go_simp) (by go_simp)).mono ?_
  rintro e w4 ⟨rfl, hw4⟩
  have hK4 : Below w.heap.size w w4 := by subst hw4; exact hK3.alloc hK3.size _
  clear hw4
  have q3 := kG1 _ hK4
  go_wp2_with fail
  refine q3.mono ?_
  rintro e w5 ⟨rfl, hB5⟩
  have hK5 := hK4.trans (hB5.mono hK4.size)
  clear hB5
  have q4 := kSo _ hK5
  go_wp2_with fail
  refine q4.mono ?_
  rintro e w6 ⟨B1, out1, rfl, hBB1, hF1, hup1, hmem1, hB6⟩
  have hK6 := hK5.trans (hB6.mono hK5.size)
  have hS1 : Sl w6 (.slice (some ⟨B1, 0, none⟩) out1.length out1.length) out1 := Sl.row hF1.row hF1.lt
  have hl1 : out1.length ≤ 4096 := Nat.le_trans (up_len_le hup1 fun x hx => (hmem1 x).1 hx) hn
  clear hB6 hF1 hBB1
  have q5 := kU _ hK6
  go_wp2_with fail
  refine q5.mono ?_
  rintro e w7 ⟨B2, out2, hor, hBB2, hF2, hup2, hmem2, hB7⟩
  have hl2 : out2.length ≤ 4096 := by
    have := up_len_le (m := a ++ b) hup2 fun x hx => List.mem_append.2 ((hmem2 x).1 hx)
    rw [List.length_append] at this
    omega
  obtain rfl : e = .returned (.tuple #[.slice (some ⟨B2, 0, none⟩) out2.length out2.length, .int .i64 0]) := by
    rcases hor with ⟨_, h⟩ | ⟨h, _⟩
    · exact h
    · omega
  have hK7 := hK6.trans (hB7.mono hK6.size)
  have hS2 : Sl w7 (.slice (some ⟨B2, 0, none⟩) out2.length out2.length) out2 := Sl.row hF2.row hF2.lt
  replace hS1 := hS1.below hB7
  clear hor hB7 hF2 hBB2
  have q6 := kC _ hK7
  go_wp2_with fail
  refine q6.mono ?_
  rintro e w8 ⟨v3, rfl, ho3, hB8⟩
  have hK8 := hK7.trans (hB8.mono hK7.size)
  have hS3 := ho3.sl
  replace hS1 := hS1.below hB8
  replace hS2 := hS2.below hB8
  clear ho3 hB8
  have q7 := kL _ hK8
  go_wp2_with fail
  refine q7.mono ?_
  rintro e w9 ⟨v4, rfl, ho4, hB9⟩
  have hK9 := hK8.trans (hB9.mono hK8.size)
  have hS4 := ho4.sl
  replace hS1 := hS1.below hB9
  replace hS2 := hS2.below hB9
  replace hS3 := hS3.below hB9
  clear ho4 hB9
  go_wp2_with fail
  refine (kW _).mono ?_
  rintro e w9a ⟨rfl, hw9a⟩
  subst hw9a
  have q8 := kO _ hK9
  go_wp2_with fail
  refine q8.mono ?_
  rintro e w10 ⟨rfl, hB10⟩
  have hK10 := hK9.trans (hB10.mono hK9.size)
  replace hS1 := hS1.below hB10
  replace hS2 := hS2.below hB10
  replace hS3 := hS3.below hB10
  replace hS4 := hS4.below hB10
  clear hB10
  go_wp2_with fail
  refine (kF2 _ _ (by go_simp) (by go_simp)).mono ?_
  rintro e w11 ⟨rfl, hw11⟩
  have hB11 : Below w10.heap.size w10 w11 := by subst hw11; exact (Below.refl _ _).alloc (Nat.le_refl _) _
  have hK11 := hK10.trans (hB11.mono hK10.size)
  replace hS1 := hS1.below hB11
  replace hS2 := hS2.below hB11
  replace hS3 := hS3.below hB11
  replace hS4 := hS4.below hB11
  clear hw11 hB11
  have q9 := kRS _ hK11
  go_wp2_with fail
  refine q9.mono ?_
  rintro e w12 ⟨v5, out5, rfl, ho5, hup5, hmem5, hB12⟩
  have hK12 := hK11.trans (hB12.mono hK11.size)
  obtain rfl : out5 = out1 := up_ext hup5 hup1 fun x => (hmem5 x).trans (hmem1 x).symm
  replace hS1 := hS1.below hB12
  have q10 := cells_same out5 _ _ _ hS1 ho5.sl hl1
  replace hS2 := hS2.below hB12
  replace hS3 := hS3.below hB12
  replace hS4 := hS4.below hB12
  clear hB12 ho5
  go_wp2_with fail
  refine q10.mono ?_
  rintro e w13 ⟨rfl, hB13⟩
  have hK13 := hK12.trans (hB13.mono hK12.size)
  replace hS2 := hS2.below hB13
  replace hS3 := hS3.below hB13
  replace hS4 := hS4.below hB13
  clear hB13
  have r1 := kRU _ hK13
  go_wp2_with fail
  refine r1.mono ?_
  rintro e w14 ⟨v6, out6, rfl, ho6, hup6, hmem6, hB14⟩
  have hK14 := hK13.trans (hB14.mono hK13.size)
  obtain rfl : out6 = out2 := up_ext hup6 hup2 fun x => (hmem6 x).trans (hmem2 x).symm
  have r2 := cells_same out6 _ _ _ (hS2.below hB14) ho6.sl hl2
  replace hS3 := hS3.below hB14
  replace hS4 := hS4.below hB14
  clear hB14 ho6
  go_wp2_with fail
  refine r2.mono ?_
  rintro e w15 ⟨rfl, hB15⟩
  have hK15 := hK14.trans (hB15.mono hK14.size)
  replace hS3 := hS3.below hB15
  replace hS4 := hS4.below hB15
  clear hB15
  have r3 := kRC _ hK15
  go_wp2_with fail
  refine r3.mono ?_
  rintro e w16 ⟨v7, rfl, ho7, hB16⟩
  have hK16 := hK15.trans (hB16.mono hK15.size)
  have r4 := cells_same _ _ _ _ (hS3.below hB16) ho7.sl (Nat.le_trans (List.length_filter_le ..) hn)
  replace hS4 := hS4.below hB16
  clear hB16 ho7
  go_wp2_with fail
  refine r4.mono ?_
  rintro e w17 ⟨rfl, hB17⟩
  have hK17 := hK16.trans (hB17.mono hK16.size)
  replace hS4 := hS4.below hB17
  clear hB17
  have r5 := kRL _ hK17
  go_wp2_with fail
  refine r5.mono ?_
  rintro e w18 ⟨v8, rfl, ho8, hB18⟩
  have hK18 := hK17.trans (hB18.mono hK17.size)
  have r6 := cells_same _ _ _ _ (hS4.below hB18) ho8.sl (Nat.le_trans (List.length_filter_le ..) hn)
  clear hB18 ho8
  go_wp2_with fail
  refine r6.mono ?_
  rintro e w19 ⟨rfl, hB19⟩
  go_wp2
  go_ret
  exact ⟨rfl, hK18.trans (hB19.mono hK18.size)⟩
theorem outI_two (l : List Cel) : outI l = 0 ∨ outI l = 3 := by
  unfold outI
  cases l.any badC <;> simp
theorem chk_out : ∀ {l : List Cel} {p : Option Cel}, chkFrom p l = 0 → outI l = 0
  | [], _, _ => rfl
  | c :: l, p, h => by
    unfold chkFrom at h
    cases hb : badC c with
    | true => rw [hb] at h; cases h
    | false =>
      rw [hb] at h
      simp only [Bool.false_eq_true, if_false] at h
      split at h
      · cases h
      · have := chk_out h
        unfold outI at this ⊢
        rw [List.any_cons, hb]
        simpa using this
theorem gsets_all (a b : List Cel) (va vb : Value) (w : World) (ha : St w va a) (hb : St w vb b) (kA : AwakeAt w) :
    Calls Tryz.prog 3 #[va, vb] w fun e w' => e = .returned (.bool true) ∧ Below w.heap.size w w' := by
  obtain ⟨ha1, A, ka, rfl, _, _⟩ := ha
  obtain ⟨hb1, B, kb, rfl, hkb, hkm⟩ := hb
  cases h1 : shortB a.length 80 with
  | false => exact gsets_out1 A B _ _ ka kb w kA h1
  | true =>
    cases h2 : shortB b.length 80 with
    | false => exact gsets_out2 A B _ _ ka kb w kA h1 h2
    | true =>
      by_cases h0 : fstI [chkI a, chkI b] = 0
      · have h3 : chkI a = 0 ∧ chkI b = 0 := by
          simp only [fstI] at h0
          split at h0
          · rename_i ha
            refine ⟨ha, ?_⟩
            split at h0
            · assumption
            · exact h0
          · rename_i ha
            exact absurd h0 ha
        have hn := chk_len h3.1
        have ho : outI a = 0 := chk_out (p := none) (by
          have := h3.1
          unfold chkI at this
          rwa [if_neg (by omega)] at this)
        exact gsets_4 a b A B ka kb w kA ha1 hb1 hkb hkm h1 h2 hn ho h3.1 h3.2
      · by_cases hn : 4096 < a.length
        · exact gsets_1 a b A B ka kb w kA ha1 hb1 hkb hkm h1 h2 hn _ rfl h0
        · rcases outI_two a with ho | ho
          · exact gsets_3 a b A B ka kb w kA ha1 hb1 hkb hkm h1 h2 (by omega) ho _ rfl h0
          · exact gsets_2 a b A B ka kb w kA ha1 hb1 hkb hkm h1 h2 (by omega) ho _ rfl h0
end Go.Proofs
