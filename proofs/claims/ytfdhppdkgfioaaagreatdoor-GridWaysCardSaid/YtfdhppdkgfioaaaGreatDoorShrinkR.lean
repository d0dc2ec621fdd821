import Derived.Test.YtfdhppdkgfioaaaGreatDoorRefC
import Derived.Test.YtfdhppdkgfioaaaGreatDoorRow
import Derived.Test.YtfdhppdkgfioaaaGreatDoorMapC
import Derived.Deep.RegionHeld3
import Derived.Test.YtfdhppdkgfioaaaGreatDoorMoved
import Derived.Test.YtfdhppdkgfioaaaGreatDoorCheckG
import Derived.Test.YtfdhppdkgfioaaaGreatDoorPrtC
import Derived.Test.YtfdhppdkgfioaaaGreatDoorPeel
section
/- The reference's Moved. -/
namespace Go.Proofs
open Go.RowKit
set_option maxHeartbeats 8000000
set_option maxRecDepth 1000000
theorem refMoved_ok (x y z bx by_ bz : Int) (w : World) (k1 : -9000000 ≤ x + bx ∧ x + bx ≤ 9000000) (k2 : -9000000 ≤ y + by_ ∧ y + by_ ≤ 9000000) (k3 : -9000000 ≤ z + bz ∧ z + bz ≤ 9000000) :
    Calls Tryz.prog 118 #[.agg #[.int .i64 x, .int .i64 y, .int .i64 z], .agg #[.int .i64 bx, .int .i64 by_, .int .i64 bz]] w fun e w' => e = .returned (.agg #[.int .i64 (x + bx), .int .i64 (y + by_), .int .i64 (z + bz)]) ∧ Below w.heap.size w w' := by
  have w1 := wrapS k1
  have w2 := wrapS k2
  have w3 := wrapS k3
  clear k1 k2 k3
  have hB : Below w.heap.size w ((w.alloc (.cells #[.int .i64 x, .int .i64 y, .int .i64 z] 24)).alloc (.cells #[.int .i64 bx, .int .i64 by_, .int .i64 bz] 24)) := ((Below.refl _ _).alloc (Nat.le_refl _) _).alloc (by simp) _
  go_enter Tryz.func118, Tryz.ntmps118
  go_wp2
  refine bodyPost_ret (results_cell_row rfl _ _ _ 24 #[.int .i64 (x + bx), .int .i64 (y + by_), .int .i64 (z + bz)] (0, 0) _ rfl ?_ Tryz.underlying24 rfl (by kernel_rfl)) rfl ?_
  · have := heap_alloc_new ((w.alloc (.cells #[.int .i64 x, .int .i64 y, .int .i64 z] 24)).alloc (.cells #[.int .i64 bx, .int .i64 by_, .int .i64 bz] 24)) (.cells #[.int .i64 (x + bx), .int .i64 (y + by_), .int .i64 (z + bz)] 24)
    have e : ((w.alloc (.cells #[.int .i64 x, .int .i64 y, .int .i64 z] 24)).alloc (.cells #[.int .i64 bx, .int .i64 by_, .int .i64 bz] 24)).heap.size = w.heap.size + 1 + 1 := by simp
    rw [e] at this
    exact this
  · exact ⟨rfl, hB.alloc (by simp; omega) _⟩
end Go.Proofs
end

section
/- The reference's Near. -/
namespace Go.Proofs
open Go.RowKit
set_option maxHeartbeats 8000000
set_option maxRecDepth 1000000
theorem refNear_ok (c : Cel) (hc : Near c 3000) (w : World) :
    Calls Tryz.prog 61 #[cellV c] w fun e w' => ∃ v', e = .returned v' ∧ Own w' w.heap.size v' (nearL c) ∧ Below w.heap.size w w' := by
  obtain ⟨x, y, z⟩ := c
  unfold Near at hc
  unfold cellV
  dsimp only at hc ⊢
  have m1 := fun W => refMoved_ok x y z (-1) 0 0 W (by omega) (by omega) (by omega)
  have m2 := fun W => refMoved_ok x y z 0 (-1) 0 W (by omega) (by omega) (by omega)
  have m3 := fun W => refMoved_ok x y z 0 0 (-1) W (by omega) (by omega) (by omega)
  have m4 := fun W => refMoved_ok x y z 0 0 1 W (by omega) (by omega) (by omega)
  have m5 := fun W => refMoved_ok x y z 0 1 0 W (by omega) (by omega) (by omega)
  have m6 := fun W => refMoved_ok x y z 1 0 0 W (by omega) (by omega) (by omega)
  have ex : x + -1 = x - 1 := rfl
  have ey : y + -1 = y - 1 := rfl
  have ez : z + -1 = z - 1 := rfl
  simp only [Int.add_zero, ex, ey, ez] at m1 m2 m3 m4 m5 m6
  clear ex ey ez hc
  obtain ⟨W, hW⟩ : ∃ W, W = w.alloc (.cells #[.int .i64 x, .int .i64 y, .int .i64 z] 24) := ⟨_, rfl⟩
  have hBW : Below w.heap.size w W := by subst hW; exact (Below.refl _ _).alloc (Nat.le_refl _) _
  have e0 : W.cell? ⟨w.heap.size, 0, none⟩ = some (.int .i64 x) := by subst hW; go_simp
  have e1 : W.cell? ⟨w.heap.size, 1, none⟩ = some (.int .i64 y) := by subst hW; go_simp
  have e2 : W.cell? ⟨w.heap.size, 2, none⟩ = some (.int .i64 z) := by subst hW; go_simp
  have hs : w.heap.size < W.heap.size := by subst hW; simp
  have kS : ∀ W', Below W.heap.size W W' → W'.cell? ⟨w.heap.size, 0, none⟩ = some (.int .i64 x) ∧ W'.cell? ⟨w.heap.size, 1, none⟩ = some (.int .i64 y) ∧ W'.cell? ⟨w.heap.size, 2, none⟩ = some (.int .i64 z) := fun W' h => ⟨(h.cell (p := ⟨w.heap.size, _, none⟩) hs).trans e0, (h.cell (p := ⟨w.heap.size, _, none⟩) hs).trans e1, (h.cell (p := ⟨w.heap.size, _, none⟩) hs).trans e2⟩
  have hX : Below W.heap.size W W.drew := (Below.refl _ _).drew
  have hS0 := kS _ hX
  go_enter Tryz.func61, Tryz.ntmps61
  go_wp2
  rw [← hW]
  clear hW
  go_region_held3 (fun w' => w'.cell? ⟨w.heap.size, 0, none⟩ = some (.int .i64 x) ∧ w'.cell? ⟨w.heap.size, 1, none⟩ = some (.int .i64 y) ∧ w'.cell? ⟨w.heap.size, 2, none⟩ = some (.int .i64 z)) (first | exact hS0 | exact hS1 | exact kS _ (hX.alloc hX.size _) | go_keep) (first
    | (go_at_call 118; first
        | (with_reducible refine (m1 _).mono ?_; rintro e w1 ⟨rfl, hB⟩; replace hX := hX.trans (hB.mono hX.size); have hS1 := kS _ hX; clear hB)
        | (with_reducible refine (m2 _).mono ?_; rintro e w2 ⟨rfl, hB⟩; replace hX := hX.trans (hB.mono hX.size); have hS1 := kS _ hX; clear hB)
        | (with_reducible refine (m3 _).mono ?_; rintro e w3 ⟨rfl, hB⟩; replace hX := hX.trans (hB.mono hX.size); have hS1 := kS _ hX; clear hB)
        | (with_reducible refine (m4 _).mono ?_; rintro e w4 ⟨rfl, hB⟩; replace hX := hX.trans (hB.mono hX.size); have hS1 := kS _ hX; clear hB)
        | (with_reducible refine (m5 _).mono ?_; rintro e w5 ⟨rfl, hB⟩; replace hX := hX.trans (hB.mono hX.size); have hS1 := kS _ hX; clear hB)
        | (with_reducible refine (m6 _).mono ?_; rintro e w6 ⟨rfl, hB⟩; replace hX := hX.trans (hB.mono hX.size); have hS1 := kS _ hX; clear hB)))
  have hO : Own (w6.alloc (.cells #[.int .i64 (x - 1), .int .i64 y, .int .i64 z, .int .i64 x, .int .i64 (y - 1), .int .i64 z, .int .i64 x, .int .i64 y, .int .i64 (z - 1), .int .i64 x, .int .i64 y, .int .i64 (z + 1), .int .i64 x, .int .i64 (y + 1), .int .i64 z, .int .i64 (x + 1), .int .i64 y, .int .i64 z] 24)) W.heap.size (.slice (some ⟨w6.heap.size, 0, none⟩) 6 6) (nearL (x, y, z)) := World.ownsRow_lit w6 _ 6 hX.size (by unfold maxLen; omega) rfl
  have hB6 := hBW.trans ((hX.alloc hX.size (.cells #[.int .i64 (x - 1), .int .i64 y, .int .i64 z, .int .i64 x, .int .i64 (y - 1), .int .i64 z, .int .i64 x, .int .i64 y, .int .i64 (z - 1), .int .i64 x, .int .i64 y, .int .i64 (z + 1), .int .i64 x, .int .i64 (y + 1), .int .i64 z, .int .i64 (x + 1), .int .i64 y, .int .i64 z] 24)).mono hBW.size)
  clear e0 e1 e2 kS hS0 hS1 m1 m2 m3 m4 m5 m6
  go_wp2
  go_ret
  exact ⟨_, rfl, hO.lower hBW.size, hB6⟩
end Go.Proofs
end

section
/- The reference's At and HasCell. -/
namespace Go.Proofs
open Go.RowKit
set_option maxHeartbeats 8000000
set_option maxRecDepth 1000000
theorem at_ok (l : List Cel) (v : Value) (x y z : Int) (w : World) (hl : Sl w v l) (hn : l.length ≤ 1000000) :
    Calls Tryz.prog 22 #[v, .agg #[.int .i64 x, .int .i64 y, .int .i64 z]] w fun e w' => ∃ r : Int, e = .returned (.int .i64 r) ∧ (r = -1 ∧ (x, y, z) ∉ l ∨ ∃ k : Nat, r = k ∧ l[k]? = some (x, y, z) ∧ ∀ i, i < k → l[i]? ≠ some (x, y, z)) ∧ Below w.heap.size w w' := by
  obtain ⟨A, cap, rfl⟩ := hl.form
  obtain ⟨W, hW⟩ : ∃ W, W = w.alloc (.cells #[.int .i64 x, .int .i64 y, .int .i64 z] 24) := ⟨_, rfl⟩
  have hBW : Below w.heap.size w W := by subst hW; exact (Below.refl _ _).alloc (Nat.le_refl _) _
  have c0 : W.cell? ⟨w.heap.size, 0, none⟩ = some (.int .i64 x) := by subst hW; go_simp
  have c1 : W.cell? ⟨w.heap.size, 1, none⟩ = some (.int .i64 y) := by subst hW; go_simp
  have c2 : W.cell? ⟨w.heap.size, 2, none⟩ = some (.int .i64 z) := by subst hW; go_simp
  go_enter Tryz.func22, Tryz.ntmps22
  go_wp2
  rw [← hW]
  clear hW
  go_loopw [5] (fun i wr => ∃ k q : Nat, k ≤ l.length ∧ i = .int .i64 k ∧ wr = W.drewN q ∧ ∀ j, j < k → l[j]? ≠ some (x, y, z)) (fun i _ => l.length - (intOf i).toNat)
  case atStart => exact ⟨0, 0, Nat.zero_le _, rfl, rfl, fun j h => absurd h (Nat.not_lt_zero j)⟩
  case round =>
    obtain ⟨k, q, hk, rfl, rfl, hno⟩ := hrel
    rcases Nat.lt_or_eq_of_le hk with hkn | rfl
    · obtain ⟨b, o, ux, uy, uz, rfl, -, hb, hc, r0, r1, r2⟩ := hl.cells hkn
      have R0 := (hBW.cell (p := ⟨b, _, none⟩) hb).trans r0
      have R1 := (hBW.cell (p := ⟨b, _, none⟩) hb).trans r1
      have R2 := (hBW.cell (p := ⟨b, _, none⟩) hb).trans r2
      have hk0 : (0 : Int) ≤ k := by omega
      have hk1 : (k : Int) < l.length := by omega
      have heq := fun W => eqCell ux uy uz x y z W
      by_cases he : (ux, uy, uz) = (x, y, z)
      · have hbq : (ux == x && (uy == y && uz == z)) = true := by simpa using he
        rw [hbq] at heq
        rw [he] at hc
        clear hbq hl he
        go_wp2_with fail
        go_quiet (fail)
        rename Nat => q1
        go_wp2
        go_ret
        exact ⟨k, rfl, .inr ⟨k, rfl, hc, hno⟩, ⟨hBW.os, hBW.tape, hBW.output, hBW.size, hBW.block⟩⟩
      · have hbq : (ux == x && (uy == y && uz == z)) = false := by
          simp only [Bool.and_eq_false_iff, beq_eq_false_iff_ne, ne_eq]
          simp only [Prod.mk.injEq] at he
          omega
        rw [hbq] at heq
        have hno' : ∀ j, j < k + 1 → l[j]? ≠ some (x, y, z) := fun j hj e => by
          rcases Nat.lt_or_eq_of_le (Nat.le_of_lt_succ hj) with h | rfl
          · exact hno j h e
          · rw [hc] at e
            exact he (Option.some.inj e)
        clear hbq hl he hno
        go_wp2_with fail
        go_quiet (fail)
        rename Nat => q1
        go_wp2
        exact ⟨⟨k + 1, _, hkn, rfl, rfl, hno'⟩, by simp [intOf]; omega⟩
    · have hB' : Below w.heap.size w (W.drewN q) := ⟨hBW.os, hBW.tape, hBW.output, hBW.size, hBW.block⟩
      have hnm : (x, y, z) ∉ l := fun h => by
        obtain ⟨i, hi⟩ := List.mem_iff_getElem?.1 h
        exact hno i (List.getElem?_eq_some_iff.1 hi).1 hi
      clear hl hno hBW
      go_wp2
      go_ret
      exact ⟨-1, rfl, .inl ⟨rfl, hnm⟩, hB'⟩
theorem has_ok (l : List Cel) (v : Value) (x y z : Int) (w : World) (hl : Sl w v l) (hn : l.length ≤ 1000000) :
    Calls Tryz.prog 18 #[v, .agg #[.int .i64 x, .int .i64 y, .int .i64 z]] w fun e w' => e = .returned (.bool (decide ((x, y, z) ∈ l))) ∧ Below w.heap.size w w' := by
  have hB : Below w.heap.size w (w.alloc (.cells #[.int .i64 x, .int .i64 y, .int .i64 z] 24)) := (Below.refl _ _).alloc (Nat.le_refl _) _
  have hat := at_ok l v x y z _ (hl.below hB) hn
  obtain ⟨A, cap, rfl⟩ := hl.form
  clear hl
  go_enter Tryz.func18, Tryz.ntmps18
  go_wp2_with (go_at_call 22; refine hat.mono ?_; rintro e w2 ⟨r, rfl, hr, hB2⟩)
  go_ret
  refine ⟨?_, hB.trans (hB2.mono hB.size)⟩
  rcases hr with ⟨rfl, h⟩ | ⟨k, rfl, h, _⟩
  · rw [decide_eq_false h]
    rfl
  · rw [decide_eq_true (List.mem_of_getElem? h)]
    simp
end Go.Proofs
end

section
/- The reference's Shrink. -/
namespace Go.Proofs
open Go.RowKit
set_option maxHeartbeats 8000000
set_option maxRecDepth 1000000

theorem refShrink_ok (l : List Cel) (v : Value) (n : Nat) (w : World) (hl : Sl w v l) (hn : l.length ≤ 100000) (hnear : ∀ c ∈ l, Near c 2000) (hn1 : n ≤ 1000) :
    Calls Tryz.prog 59 #[v, .int .i64 n] w fun e w' => ∃ v', e = .returned v' ∧ Own w' w.heap.size v' (shrN n l) ∧ Below w.heap.size w w' := by
  have hE : Own (w.alloc (.cells #[] 24)) w.heap.size (.slice (some ⟨w.heap.size, 0, none⟩) 0 0) [] := World.ownsRow_lit w #[] 0 (Nat.le_refl _) (Nat.zero_le _) rfl
  have hB0 : Below w.heap.size w (w.alloc (.cells #[] 24)) := (Below.refl _ _).alloc (Nat.le_refl _) _
  have hl0 := hl.below hB0
  go_enter Tryz.func59, Tryz.ntmps59
  go_wp2_with (at_builtin; refine wpList_append_sl rfl _ _ rfl w.heap.size ?cE _ [] rfl hE _ l rfl hl0 ?cC ?_)
  case cC => simp; omega
  case cE => simp
  intro v1 w1 hown1 hB1
  have hB01 := hB0.trans hB1
  clear hE hl0 hB0 hB1
  go_wp2
  go_loopw [5, 6] (fun s t wr => ∃ (i : Nat) (L : List Cel), i ≤ n ∧ t = .int .i64 i ∧ Own wr w.heap.size s L ∧ shrN (n - i) L = shrN n l ∧ L.length ≤ 100000 ∧ (∀ c ∈ L, Near c 2000) ∧ Below w.heap.size w wr) (fun _ t _ => n - (intOf t).toNat)
  case atStart => exact ⟨0, l, Nat.zero_le _, rfl, hown1, rfl, hn, hnear, hB01⟩
  case round =>
    clear hown1 hB01 hl hn hnear
    obtain ⟨i, L, hi, rfl, hown, hsh, hL, hnear, hB⟩ := hrel
    rename World => w2
    rcases Nat.lt_or_eq_of_le hi with hlt | rfl
    · have hi0 : (i : Int) < n := by omega
      have wi := wrapS (n := (i : Int) + 1) (by omega)
      have hS := hown.sl
      have hsh' : shrN (n - (i + 1)) (L.filter (insB L)) = shrN n l := by rw [← hsh, show n - i = (n - (i + 1)) + 1 by omega]; rfl
      have Hsh := Lib.hid hsh'
      clear hsh hsh' hown
      obtain ⟨A5, k5, rfl⟩ := hS.form
      go_wp2
      go_loopw [7, 8] (fun s t wr => ∃ k : Nat, k ≤ L.length ∧ t = .int .i64 k ∧ Own wr w2.heap.size s ((L.take k).filter (insB L)) ∧ Below w2.heap.size w2 wr) (fun _ t _ => L.length - (intOf t).toNat)
      case atStart => exact ⟨0, Nat.zero_le _, rfl, by simpa using Own.nil _ _, Below.refl _ _⟩
      case round =>
        obtain ⟨k, hk, rfl, hown7, hB2⟩ := hrel
        rename World => w3
        rcases Nat.lt_or_eq_of_le hk with hkn | rfl
        · have hk0 : (0 : Int) ≤ k := by omega
          have hk1 : (k : Int) < L.length := by omega
          have wk := wrapS (n := (k : Int) + 1) (by omega)
          obtain ⟨b, o, x, y, z, rfl, -, hb, hc, r0, r1, r2⟩ := hS.cells hkn
          have q := refNear_ok (x, y, z) ((hnear _ (List.mem_of_getElem? hc)).mono (by omega)) w3
          unfold cellV at q
          dsimp only at q
          have hsz := hB2.size
          have R0 := (hB2.cell (p := ⟨b, _, none⟩) hb).trans r0
          have R1 := (hB2.cell (p := ⟨b, _, none⟩) hb).trans r1
          have R2 := (hB2.cell (p := ⟨b, _, none⟩) hb).trans r2
          have hft := filter_take1 (f := insB L) hc
          have Hft := Lib.hid hft
          have Hc := Lib.hid hc
          clear hft hc
          go_wp2_with (go_at_call 61; refine q.mono ?_; rintro e w4 ⟨v9, rfl, hown9, hB4⟩)
          have hS9 := hown9.sl
          have hB34 := hB2.trans (hB4.mono hsz)
          have hown74 := hown7.keep hB4
          clear q R0 R1 R2 hown9
          obtain ⟨A9, k9, rfl⟩ : ∃ (A9 : Option Addr) (k9 : Nat), v9 = .slice A9 6 k9 := hS9.form
          go_loopw [10, 11] (fun s t wr => ∃ j : Nat, j ≤ 6 ∧ t = .int .i64 j ∧ s = .bool (((nearL (x, y, z)).take j).all fun d => decide (d ∈ L)) ∧ Below w4.heap.size w4 wr) (fun _ t _ => 6 - (intOf t).toNat)
          case atStart => exact ⟨0, by omega, rfl, rfl, Below.refl _ _⟩
          case round =>
            obtain ⟨j, hj, rfl, rfl, hB5⟩ := hrel
            rename World => w5
            rcases Nat.lt_or_eq_of_le hj with hjn | rfl
            · have hj0 : (0 : Int) ≤ j := by omega
              have hj1 : (j : Int) < 6 := by omega
              have wj := wrapS (n := (j : Int) + 1) (by omega)
              obtain ⟨b9, o9, x', y', z', rfl, -, hb9, hc9, q0, q1, q2⟩ := hS9.cells (k := j) hjn
              have S0 := (hB5.cell (p := ⟨b9, _, none⟩) hb9).trans q0
              have S1 := (hB5.cell (p := ⟨b9, _, none⟩) hb9).trans q1
              have S2 := (hB5.cell (p := ⟨b9, _, none⟩) hb9).trans q2
              have hst : (((nearL (x, y, z)).take (j + 1)).all fun d => decide (d ∈ L)) = ((((nearL (x, y, z)).take j).all fun d => decide (d ∈ L)) && decide ((x', y', z') ∈ L)) := by
                rw [List.take_add_one, hc9]
                simp
              have Hst := Lib.hid hst
              have q := has_ok L _ x' y' z' w5 (hS.below ((hB2.trans (hB4.mono hsz)).trans (hB5.mono (Nat.le_trans hsz hB4.size)))) (by omega)
              have hsz5 := hB5.size
              clear hst hc9 q0 q1 q2
              cases hb : (((nearL (x, y, z)).take j).all fun d => decide (d ∈ L)) with
              | true =>
                rw [hb] at Hst
                clear hb
                go_wp2_with (go_at_call 18; refine q.mono ?_; rintro e w6 ⟨rfl, hB6⟩)
                exact ⟨⟨j + 1, hjn, rfl, by rw [Hst.out]; simp, hB5.trans (hB6.mono hsz5)⟩, by simp [intOf]; omega⟩
              | false =>
                rw [hb] at Hst
                clear hb q
                go_wp2
                exact ⟨⟨j + 1, hjn, rfl, by rw [Hst.out]; simp, hB5⟩, by simp [intOf]; omega⟩
            · have hin : (((nearL (x, y, z)).take 6).all fun d => decide (d ∈ L)) = insB L (x, y, z) := rfl
              rw [hin]
              have hB25 := hB34.trans (hB5.mono (Nat.le_trans hsz hB4.size))
              have hown75 := hown74.keep hB5
              have R0 := (hB25.cell (p := ⟨b, _, none⟩) hb).trans r0
              have R1 := (hB25.cell (p := ⟨b, _, none⟩) hb).trans r1
              have R2 := (hB25.cell (p := ⟨b, _, none⟩) hb).trans r2
              have hlenf : ((L.take k).filter (insB L)).length ≤ 100000 := Nat.le_trans (List.length_filter_le ..) (by rw [List.length_take]; omega)
              clear hin r0 r1 r2
              cases hi : insB L (x, y, z) with
              | true =>
                rw [hi] at Hft
                simp only [if_true] at Hft
                clear hi
                go_upto_region 16 with fail
                go_wp2_with (at_builtin; refine wpList_append_sl rfl _ _ rfl w2.heap.size ?dE _ ((L.take k).filter (insB L)) rfl (hown75.alloc _) _ [(x, y, z)] rfl (.inr ⟨_, 1, rfl, row_one w5 x y z⟩) ?dC ?_)
                case dC => simp; omega
                case dE => simp; have := hB25.size; omega
                intro v8 w7 hown8 hB8
                have hB27 := (hB25.alloc hB25.size (.cells #[.int .i64 x, .int .i64 y, .int .i64 z] 24)).trans hB8
                clear R0 R1 R2
                go_wp2
                go_roundw
                case rel => exact ⟨k + 1, hkn, rfl, by rw [Hft.out]; exact hown8, hB27⟩
                case measure => simp [intOf]; omega
              | false =>
                rw [hi] at Hft
                simp only [Bool.false_eq_true, if_false, List.append_nil] at Hft
                clear hi
                go_wp2
                go_roundw
                case rel => exact ⟨k + 1, hkn, rfl, by rw [Hft.out]; exact hown75, hB25⟩
                case measure => simp [intOf]; omega
        · rw [List.take_length] at hown7
          clear hS
          go_wp2
          go_roundw
          case rel => exact ⟨i + 1, _, hlt, rfl, hown7.lower hB.size, Hsh.out, Nat.le_trans (List.length_filter_le ..) hL, fun c hc => hnear c (List.mem_filter.1 hc).1, hB.trans (hB2.mono hB.size)⟩
          case measure => simp [intOf]; omega
    · rw [Nat.sub_self] at hsh
      have Hsh : Hid (L = shrN i l) := Lib.hid hsh
      clear hsh
      go_wp2
      go_ret
      exact ⟨_, rfl, by rw [← Hsh.out]; exact hown, hB⟩
end Go.Proofs
end
