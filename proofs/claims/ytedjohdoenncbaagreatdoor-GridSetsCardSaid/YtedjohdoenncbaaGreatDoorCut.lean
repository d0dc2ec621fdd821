/- grid.Cut and grid.Less, for any two lists; the reference's HasCell. -/
import Derived.Test.YtedjohdoenncbaaGreatDoorSplit
import Derived.Test.YtedjohdoenncbaaGreatDoorChkZ
namespace Go.Proofs
open Go.RowKit
set_option maxHeartbeats 8000000
set_option maxRecDepth 1000000
theorem cut_ok (a b : List Cel) (va : Value) (A' : Option Addr) (bcap : Nat) (w : World) (ha : Sl w va a) (hb : Sl w (.slice A' b.length bcap) b) (hcap : b.length ≤ bcap) (hcm : bcap ≤ 9223372036854775807) (ca : chkI a = 0) (cb : chkI b = 0) :
    Calls Tryz.prog 16 #[va, .slice A' b.length bcap] w fun e w' => ∃ v, e = .returned (.tuple #[v, .int .i64 0]) ∧ Own w' w.heap.size v (a.filter fun c => decide (c ∈ b)) ∧ Below w.heap.size w w' := by
  obtain ⟨la, _, hua⟩ := chk_up ca
  obtain ⟨lb, _, hub⟩ := chk_up cb
  have h1 := gridCheckG a va w ha (by unfold maxLen; omega)
  have h2 := fun W (h : Below w.heap.size w W) => gridCheckG b _ W (hb.below h) (by unfold maxLen; omega)
  rw [ca] at h1
  rw [cb] at h2
  have hsp := fun W (h : Below w.heap.size w W) => split_ok a b va A' bcap W (ha.below h) (hb.below h) hcap hcm hua hub (by omega)
  obtain ⟨A, acap, rfl⟩ := ha.form
  generalize b.length = n at h2 hsp hb hcap ⊢
  clear ca cb ha hb hua hub la lb hcap
  have hor : orI 0 0 0 = 0 := by decide
  go_enter Tryz.func16, Tryz.ntmps16
  go_wp2_with fail
  refine h1.mono ?_
  rintro e w2 ⟨rfl, hB2⟩
  have h2' := h2 w2 hB2
  clear h1 h2
  go_wp2_with fail
  refine h2'.mono ?_
  rintro e w3 ⟨rfl, hB3⟩
  have hB03 := hB2.trans (hB3.mono hB2.size)
  have hB04 := hB03.alloc hB03.size (.cells #[.int .i64 0, .int .i64 0] 27)
  have hs := hsp _ hB04
  clear h2' hB2 hB3 hsp
  go_wp2_with (first
    | (go_at_call 81; refine (first2_ok 0 0 _ _ _ ?_ ?_).mono ?_; (go_simp); (go_simp); rintro e w5 ⟨rfl, hw5⟩; subst hw5)
    | (go_at_call 83; refine hs.mono ?_; rintro e w6 ⟨v1, v2, rfl, ho1, ho2, hB6⟩))
  go_ret2
  exact ⟨_, rfl, ho1.mono hB04.size, hB04.trans (hB6.mono hB04.size)⟩
theorem cut_bad (a b : List Cel) (va vb : Value) (w : World) (ha : Sl w va a) (hb : Sl w vb b) (la : a.length ≤ maxLen) (lb : b.length ≤ maxLen) (r : Int) (hr : orI (chkI a) (chkI b) 0 = r) (h0 : r ≠ 0) :
    Calls Tryz.prog 16 #[va, vb] w fun e w' => e = .returned (.tuple #[.slice none 0 0, .int .i64 r]) ∧ Below w.heap.size w w' := by
  have h1 := gridCheckG a va w ha la
  have h2 := fun W (h : Below w.heap.size w W) => gridCheckG b vb W (hb.below h) lb
  generalize chkI a = ra at h1 hr
  generalize chkI b = rb at h2 hr
  have hne : (r == 0) = false := by rw [beq_eq_false_iff_ne]; exact h0
  have hne' : (r != 0) = true := by rw [bne_iff_ne]; exact h0
  have hf2 := fun blk W => first2_ok ra rb blk 2 W
  simp only [hr] at hf2
  clear ha hb la lb hr h0
  go_enter Tryz.func16, Tryz.ntmps16
  go_wp2_with fail
  refine h1.mono ?_
  rintro e w2 ⟨rfl, hB2⟩
  have h2' := h2 w2 hB2
  clear h1 h2
  go_wp2_with fail
  refine h2'.mono ?_
  rintro e w3 ⟨rfl, hB3⟩
  have hB03 := hB2.trans (hB3.mono hB2.size)
  clear h2' hB2 hB3
  go_wp2_with (go_at_call 81; refine (hf2 _ _ ?_ ?_).mono ?_; (go_simp); (go_simp); rintro e w5 ⟨rfl, hw5⟩; subst hw5)
  go_ret2
  exact ⟨rfl, hB03.alloc hB03.size _⟩
theorem less_ok (a b : List Cel) (va : Value) (A' : Option Addr) (bcap : Nat) (w : World) (ha : Sl w va a) (hb : Sl w (.slice A' b.length bcap) b) (hcap : b.length ≤ bcap) (hcm : bcap ≤ 9223372036854775807) (ca : chkI a = 0) (cb : chkI b = 0) :
    Calls Tryz.prog 17 #[va, .slice A' b.length bcap] w fun e w' => ∃ v, e = .returned (.tuple #[v, .int .i64 0]) ∧ Own w' w.heap.size v (a.filter fun c => !decide (c ∈ b)) ∧ Below w.heap.size w w' := by
  obtain ⟨la, _, hua⟩ := chk_up ca
  obtain ⟨lb, _, hub⟩ := chk_up cb
  have h1 := gridCheckG a va w ha (by unfold maxLen; omega)
  have h2 := fun W (h : Below w.heap.size w W) => gridCheckG b _ W (hb.below h) (by unfold maxLen; omega)
  rw [ca] at h1
  rw [cb] at h2
  have hsp := fun W (h : Below w.heap.size w W) => split_ok a b va A' bcap W (ha.below h) (hb.below h) hcap hcm hua hub (by omega)
  obtain ⟨A, acap, rfl⟩ := ha.form
  generalize b.length = n at h2 hsp hb hcap ⊢
  clear ca cb ha hb hua hub la lb hcap
  have hor : orI 0 0 0 = 0 := by decide
  go_enter Tryz.func17, Tryz.ntmps17
  go_wp2_with fail
  refine h1.mono ?_
  rintro e w2 ⟨rfl, hB2⟩
  have h2' := h2 w2 hB2
  clear h1 h2
  go_wp2_with fail
  refine h2'.mono ?_
  rintro e w3 ⟨rfl, hB3⟩
  have hB03 := hB2.trans (hB3.mono hB2.size)
  have hB04 := hB03.alloc hB03.size (.cells #[.int .i64 0, .int .i64 0] 27)
  have hs := hsp _ hB04
  clear h2' hB2 hB3 hsp
  go_wp2_with (first
    | (go_at_call 81; refine (first2_ok 0 0 _ _ _ ?_ ?_).mono ?_; (go_simp); (go_simp); rintro e w5 ⟨rfl, hw5⟩; subst hw5)
    | (go_at_call 83; refine hs.mono ?_; rintro e w6 ⟨v1, v2, rfl, ho1, ho2, hB6⟩))
  go_ret2
  exact ⟨_, rfl, ho2.mono hB04.size, hB04.trans (hB6.mono hB04.size)⟩
theorem less_bad (a b : List Cel) (va vb : Value) (w : World) (ha : Sl w va a) (hb : Sl w vb b) (la : a.length ≤ maxLen) (lb : b.length ≤ maxLen) (r : Int) (hr : orI (chkI a) (chkI b) 0 = r) (h0 : r ≠ 0) :
    Calls Tryz.prog 17 #[va, vb] w fun e w' => e = .returned (.tuple #[.slice none 0 0, .int .i64 r]) ∧ Below w.heap.size w w' := by
  have h1 := gridCheckG a va w ha la
  have h2 := fun W (h : Below w.heap.size w W) => gridCheckG b vb W (hb.below h) lb
  generalize chkI a = ra at h1 hr
  generalize chkI b = rb at h2 hr
  have hne : (r == 0) = false := by rw [beq_eq_false_iff_ne]; exact h0
  have hne' : (r != 0) = true := by rw [bne_iff_ne]; exact h0
  have hf2 := fun blk W => first2_ok ra rb blk 2 W
  simp only [hr] at hf2
  clear ha hb la lb hr h0
  go_enter Tryz.func17, Tryz.ntmps17
  go_wp2_with fail
  refine h1.mono ?_
  rintro e w2 ⟨rfl, hB2⟩
  have h2' := h2 w2 hB2
  clear h1 h2
  go_wp2_with fail
  refine h2'.mono ?_
  rintro e w3 ⟨rfl, hB3⟩
  have hB03 := hB2.trans (hB3.mono hB2.size)
  clear h2' hB2 hB3
  go_wp2_with (go_at_call 81; refine (hf2 _ _ ?_ ?_).mono ?_; (go_simp); (go_simp); rintro e w5 ⟨rfl, hw5⟩; subst hw5)
  go_ret2
  exact ⟨rfl, hB03.alloc hB03.size _⟩
theorem at_ok (l : List Cel) (v : Value) (x y z : Int) (w : World) (hl : Sl w v l) (hn : l.length ≤ 1000000) :
    Calls Tryz.prog 110 #[v, .agg #[.int .i64 x, .int .i64 y, .int .i64 z]] w fun e w' => ∃ r : Int, e = .returned (.int .i64 r) ∧ (r = -1 ∧ (x, y, z) ∉ l ∨ ∃ k : Nat, r = k ∧ l[k]? = some (x, y, z) ∧ ∀ i, i < k → l[i]? ≠ some (x, y, z)) ∧ Below w.heap.size w w' := by
  obtain ⟨A, cap, rfl⟩ := hl.form
  obtain ⟨W, hW⟩ : ∃ W, W = w.alloc (.cells #[.int .i64 x, .int .i64 y, .int .i64 z] 38) := ⟨_, rfl⟩
  have hBW : Below w.heap.size w W := by subst hW; exact (Below.refl _ _).alloc (Nat.le_refl _) _
  have c0 : W.cell? ⟨w.heap.size, 0, none⟩ = some (.int .i64 x) := by subst hW; go_simp
  have c1 : W.cell? ⟨w.heap.size, 1, none⟩ = some (.int .i64 y) := by subst hW; go_simp
  have c2 : W.cell? ⟨w.heap.size, 2, none⟩ = some (.int .i64 z) := by subst hW; go_simp
  go_enter Tryz.func110, Tryz.ntmps110
  go_wp2
  rw [← hW]
  clear hW
  go_loopw [5] (fun i wr => ∃ k q : Nat, k ≤ l.length ∧ i = .int .i64 k ∧ wr = W.drewN q ∧ ∀ j, j < k → l[j]? ≠ some (x, y, z)) (fun i _ => l.length - (intOf i).toNat)
  case atStart => exact ⟨0, 0, Nat.zero_le _, rfl, rfl, fun j h => absurd h (Nat.not_lt_zero j)⟩
  case round =>
    obtain ⟨k, q, hk, rfl, rfl, hno⟩ := hrel
    rcases Nat.lt_or_eq_of_le hk with hkn | rfl
    · obtain ⟨b, o, ux, uy, uz, rfl, -, hb, hc, r0, r1, r2⟩ := hl.cells hkn
      have R0 := (hBW.cell (p := ⟨b, _, none⟩) hb).trans r0
      have R1 := (hBW.cell (p := ⟨b, _, none⟩) hb).trans r1
      have R2 := (hBW.cell (p := ⟨b, _, none⟩) hb).trans r2
      have hk0 : (0 : Int) ≤ k := by omega
      have hk1 : (k : Int) < l.length := by omega
      have heq := fun W => eqCell ux uy uz x y z W
      by_cases he : (ux, uy, uz) = (x, y, z)
      · have hbq : (ux == x && (uy == y && uz == z)) = true := by simpa using he
        rw [hbq] at heq
        rw [he] at hc
        clear hbq hl he
        go_wp2_with fail
        go_quiet (fail)
        rename Nat => q1
        go_wp2
        go_ret
        exact ⟨k, rfl, .inr ⟨k, rfl, hc, hno⟩, ⟨hBW.os, hBW.tape, hBW.output, hBW.size, hBW.block⟩⟩
      · have hbq : (ux == x && (uy == y && uz == z)) = false := by
          simp only [Bool.and_eq_false_iff, beq_eq_false_iff_ne, ne_eq]
          simp only [Prod.mk.injEq] at he
          omega
        rw [hbq] at heq
        have hno' : ∀ j, j < k + 1 → l[j]? ≠ some (x, y, z) := fun j hj e => by
          rcases Nat.lt_or_eq_of_le (Nat.le_of_lt_succ hj) with h | rfl
          · exact hno j h e
          · rw [hc] at e
            exact he (Option.some.inj e)
        clear hbq hl he hno
        go_wp2_with fail
        go_quiet (fail)
        rename Nat => q1
        go_wp2
        exact ⟨⟨k + 1, _, hkn, rfl, rfl, hno'⟩, by simp [intOf]; omega⟩
    · have hB' : Below w.heap.size w (W.drewN q) := ⟨hBW.os, hBW.tape, hBW.output, hBW.size, hBW.block⟩
      have hnm : (x, y, z) ∉ l := fun h => by
        obtain ⟨i, hi⟩ := List.mem_iff_getElem?.1 h
        exact hno i (List.getElem?_eq_some_iff.1 hi).1 hi
      clear hl hno hBW
      go_wp2
      go_ret
      exact ⟨-1, rfl, .inl ⟨rfl, hnm⟩, hB'⟩
theorem has_ok (l : List Cel) (v : Value) (x y z : Int) (w : World) (hl : Sl w v l) (hn : l.length ≤ 1000000) :
    Calls Tryz.prog 49 #[v, .agg #[.int .i64 x, .int .i64 y, .int .i64 z]] w fun e w' => e = .returned (.bool (decide ((x, y, z) ∈ l))) ∧ Below w.heap.size w w' := by
  have hB : Below w.heap.size w (w.alloc (.cells #[.int .i64 x, .int .i64 y, .int .i64 z] 38)) := (Below.refl _ _).alloc (Nat.le_refl _) _
  have hat := at_ok l v x y z _ (hl.below hB) hn
  obtain ⟨A, cap, rfl⟩ := hl.form
  clear hl
  go_enter Tryz.func49, Tryz.ntmps49
  go_wp2_with (go_at_call 110; refine hat.mono ?_; rintro e w2 ⟨r, rfl, hr, hB2⟩)
  go_ret
  refine ⟨?_, hB.trans (hB2.mono hB.size)⟩
  rcases hr with ⟨rfl, h⟩ | ⟨k, rfl, h, _⟩
  · rw [decide_eq_false h]
    rfl
  · rw [decide_eq_true (List.mem_of_getElem? h)]
    simp
end Go.Proofs
