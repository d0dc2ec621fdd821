/- The reference's At and HasCell. -/
import Derived.Test.YtgmcdnabgojaeaaGreatDoorUnionR
import Derived.Test.YtgmcdnabgojaeaaGreatDoorOutP
namespace Go.Proofs
open Go.RowKit
set_option maxHeartbeats 8000000
set_option maxRecDepth 1000000
theorem at_ok (l : List Cel) (v : Value) (x y z : Int) (w : World) (hl : Sl w v l) (hn : l.length ≤ 1000000) :
    Calls Tryz.prog 53 #[v, .agg #[.int .i64 x, .int .i64 y, .int .i64 z]] w fun e w' => ∃ r : Int, e = .returned (.int .i64 r) ∧ (r = -1 ∧ (x, y, z) ∉ l ∨ ∃ k : Nat, r = k ∧ l[k]? = some (x, y, z) ∧ ∀ i, i < k → l[i]? ≠ some (x, y, z)) ∧ Below w.heap.size w w' := by
  obtain ⟨A, cap, rfl⟩ := hl.form
  obtain ⟨W, hW⟩ : ∃ W, W = w.alloc (.cells #[.int .i64 x, .int .i64 y, .int .i64 z] 25) := ⟨_, rfl⟩
  have hBW : Below w.heap.size w W := by subst hW; exact (Below.refl _ _).alloc (Nat.le_refl _) _
  have c0 : W.cell? ⟨w.heap.size, 0, none⟩ = some (.int .i64 x) := by subst hW; go_simp
  have c1 : W.cell? ⟨w.heap.size, 1, none⟩ = some (.int .i64 y) := by subst hW; go_simp
  have c2 : W.cell? ⟨w.heap.size, 2, none⟩ = some (.int .i64 z) := by subst hW; go_simp
  go_enter Tryz.func53, Tryz.ntmps53
  go_wp2
  rw [← hW]
  clear hW
  go_loopw [5] (fun i wr => ∃ k q : Nat, k ≤ l.length ∧ i = .int .i64 k ∧ wr = W.drewN q ∧ ∀ j, j < k → l[j]? ≠ some (x, y, z)) (fun i _ => l.length - (intOf i).toNat)
  case atStart => exact ⟨0, 0, Nat.zero_le _, rfl, rfl, fun j h => absurd h (Nat.not_lt_zero j)⟩
  case round =>
    obtain ⟨k, q, hk, rfl, rfl, hno⟩ := hrel
    rcases Nat.lt_or_eq_of_le hk with hkn | rfl
    · obtain ⟨b, o, ux, uy, uz, rfl, -, hb, hc, r0, r1, r2⟩ := hl.cells hkn
      have R0 := (hBW.cell (p := ⟨b, _, none⟩) hb).trans r0
      have R1 := (hBW.cell (p := ⟨b, _, none⟩) hb).trans r1
      have R2 := (hBW.cell (p := ⟨b, _, none⟩) hb).trans r2
      have hk0 : (0 : Int) ≤ k := by omega
      have hk1 : (k : Int) < l.length := by omega
      have heq := fun W => eqCell ux uy uz x y z W
      by_cases he : (ux, uy, uz) = (x, y, z)
      · have hbq : (ux == x && (uy == y && uz == z)) = true := by simpa using he
        rw [hbq] at heq
        rw [he] at hc
        clear hbq hl he
        go_wp2_with fail
        go_quiet (fail)
        rename Nat => q1
        go_wp2
        go_ret
        exact ⟨k, rfl, .inr ⟨k, rfl, hc, hno⟩, ⟨hBW.os, hBW.tape, hBW.output, hBW.size, hBW.block⟩⟩
      · have hbq : (ux == x && (uy == y && uz == z)) = false := by
          simp only [Bool.and_eq_false_iff, beq_eq_false_iff_ne, ne_eq]
          simp only [Prod.mk.injEq] at he
          omega
        rw [hbq] at heq
        have hno' : ∀ j, j < k + 1 → l[j]? ≠ some (x, y, z) := fun j hj e => by
          rcases Nat.lt_or_eq_of_le (Nat.le_of_lt_succ hj) with h | rfl
          · exact hno j h e
          · rw [hc] at e
            exact he (Option.some.inj e)
        clear hbq hl he hno
        go_wp2_with fail
        go_quiet (fail)
        rename Nat => q1
        go_wp2
        exact ⟨⟨k + 1, _, hkn, rfl, rfl, hno'⟩, by simp [intOf]; omega⟩
    · have hB' : Below w.heap.size w (W.drewN q) := ⟨hBW.os, hBW.tape, hBW.output, hBW.size, hBW.block⟩
      have hnm : (x, y, z) ∉ l := fun h => by
        obtain ⟨i, hi⟩ := List.mem_iff_getElem?.1 h
        exact hno i (List.getElem?_eq_some_iff.1 hi).1 hi
      clear hl hno hBW
      go_wp2
      go_ret
      exact ⟨-1, rfl, .inl ⟨rfl, hnm⟩, hB'⟩
theorem has_ok (l : List Cel) (v : Value) (x y z : Int) (w : World) (hl : Sl w v l) (hn : l.length ≤ 1000000) :
    Calls Tryz.prog 14 #[v, .agg #[.int .i64 x, .int .i64 y, .int .i64 z]] w fun e w' => e = .returned (.bool (decide ((x, y, z) ∈ l))) ∧ Below w.heap.size w w' := by
  have hB : Below w.heap.size w (w.alloc (.cells #[.int .i64 x, .int .i64 y, .int .i64 z] 25)) := (Below.refl _ _).alloc (Nat.le_refl _) _
  have hat := at_ok l v x y z _ (hl.below hB) hn
  obtain ⟨A, cap, rfl⟩ := hl.form
  clear hl
  go_enter Tryz.func14, Tryz.ntmps14
  go_wp2_with (go_at_call 53; refine hat.mono ?_; rintro e w2 ⟨r, rfl, hr, hB2⟩)
  go_ret
  refine ⟨?_, hB.trans (hB2.mono hB.size)⟩
  rcases hr with ⟨rfl, h⟩ | ⟨k, rfl, h, _⟩
  · rw [decide_eq_false h]
    rfl
  · rw [decide_eq_true (List.mem_of_getElem? h)]
    simp
end Go.Proofs
