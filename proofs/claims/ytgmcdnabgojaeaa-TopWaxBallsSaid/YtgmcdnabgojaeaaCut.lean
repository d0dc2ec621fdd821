/- grid.Cut and grid.Less, for any two lists; the reference's HasCell. -/
import Derived.Test.YtgmcdnabgojaeaaSplit
import Derived.Test.YtgmcdnabgojaeaaFewR
namespace Go.Proofs
open Go.RowKit
set_option maxHeartbeats 8000000
set_option maxRecDepth 1000000
theorem cut_ok (a b : List Cel) (va : Value) (A' : Option Addr) (bcap : Nat) (w : World) (ha : Sl w va a) (hb : Sl w (.slice A' b.length bcap) b) (hcap : b.length ≤ bcap) (hcm : bcap ≤ 9223372036854775807) (ca : chkI a = 0) (cb : chkI b = 0) :
    Calls Try.prog 17 #[va, .slice A' b.length bcap] w fun e w' => ∃ v, e = .returned (.tuple #[v, .int .i64 0]) ∧ Own w' w.heap.size v (a.filter fun c => decide (c ∈ b)) ∧ Below w.heap.size w w' := by
  obtain ⟨la, _, hua⟩ := chk_up ca
  obtain ⟨lb, _, hub⟩ := chk_up cb
  have h1 := gridCheckG a va w ha (by unfold maxLen; omega)
  have h2 := fun W (h : Below w.heap.size w W) => gridCheckG b _ W (hb.below h) (by unfold maxLen; omega)
  rw [ca] at h1
  rw [cb] at h2
  have hsp := fun W (h : Below w.heap.size w W) => split_ok a b va A' bcap W (ha.below h) (hb.below h) hcap hcm hua hub (by omega)
  obtain ⟨A, acap, rfl⟩ := ha.form
  generalize b.length = n at h2 hsp hb hcap ⊢
  clear ca cb ha hb hua hub la lb hcap
  have hor : orI 0 0 0 = 0 := by decide
  go_enter Try.func17, Try.ntmps17
  go_wp2_with fail
  refine h1.mono ?_
  rintro e w2 ⟨rfl, hB2⟩
  have h2' := h2 w2 hB2
  clear h1 h2
  go_wp2_with fail
  refine h2'.mono ?_
  rintro e w3 ⟨rfl, hB3⟩
  have hB03 := hB2.trans (hB3.mono hB2.size)
  have hB04 := hB03.alloc hB03.size (.cells #[.int .i64 0, .int .i64 0] 25)
  have hs := hsp _ hB04
  clear h2' hB2 hB3 hsp
  go_wp2_with (first
    | (go_at_call 24; refine (first2_ok 0 0 _ _ _ ?_ ?_).mono ?_; (go_simp); (go_simp); rintro e w5 ⟨rfl, hw5⟩; subst hw5)
    | (go_at_call 35; refine hs.mono ?_; rintro e w6 ⟨v1, v2, rfl, ho1, ho2, hB6⟩))
  go_ret2
  exact ⟨_, rfl, ho1.mono hB04.size, hB04.trans (hB6.mono hB04.size)⟩
theorem cut_bad (a b : List Cel) (va vb : Value) (w : World) (ha : Sl w va a) (hb : Sl w vb b) (la : a.length ≤ maxLen) (lb : b.length ≤ maxLen) (r : Int) (hr : orI (chkI a) (chkI b) 0 = r) (h0 : r ≠ 0) :
    Calls Try.prog 17 #[va, vb] w fun e w' => e = .returned (.tuple #[.slice none 0 0, .int .i64 r]) ∧ Below w.heap.size w w' := by
  have h1 := gridCheckG a va w ha la
  have h2 := fun W (h : Below w.heap.size w W) => gridCheckG b vb W (hb.below h) lb
  generalize chkI a = ra at h1 hr
  generalize chkI b = rb at h2 hr
  have hne : (r == 0) = false := by rw [beq_eq_false_iff_ne]; exact h0
  have hne' : (r != 0) = true := by rw [bne_iff_ne]; exact h0
  have hf2 := fun blk W => first2_ok ra rb blk 2 W
  simp only [hr] at hf2
  clear ha hb la lb hr h0
  go_enter Try.func17, Try.ntmps17
  go_wp2_with fail
  refine h1.mono ?_
  rintro e w2 ⟨rfl, hB2⟩
  have h2' := h2 w2 hB2
  clear h1 h2
  go_wp2_with fail
  refine h2'.mono ?_
  rintro e w3 ⟨rfl, hB3⟩
  have hB03 := hB2.trans (hB3.mono hB2.size)
  clear h2' hB2 hB3
  go_wp2_with (go_at_call 24; refine (hf2 _ _ ?_ ?_).mono ?_; (go_simp); (go_simp); rintro e w5 ⟨rfl, hw5⟩; subst hw5)
  go_ret2
  exact ⟨rfl, hB03.alloc hB03.size _⟩
theorem less_ok (a b : List Cel) (va : Value) (A' : Option Addr) (bcap : Nat) (w : World) (ha : Sl w va a) (hb : Sl w (.slice A' b.length bcap) b) (hcap : b.length ≤ bcap) (hcm : bcap ≤ 9223372036854775807) (ca : chkI a = 0) (cb : chkI b = 0) :
    Calls Try.prog 14 #[va, .slice A' b.length bcap] w fun e w' => ∃ v, e = .returned (.tuple #[v, .int .i64 0]) ∧ Own w' w.heap.size v (a.filter fun c => !decide (c ∈ b)) ∧ Below w.heap.size w w' := by
  obtain ⟨la, _, hua⟩ := chk_up ca
  obtain ⟨lb, _, hub⟩ := chk_up cb
  have h1 := gridCheckG a va w ha (by unfold maxLen; omega)
  have h2 := fun W (h : Below w.heap.size w W) => gridCheckG b _ W (hb.below h) (by unfold maxLen; omega)
  rw [ca] at h1
  rw [cb] at h2
  have hsp := fun W (h : Below w.heap.size w W) => split_ok a b va A' bcap W (ha.below h) (hb.below h) hcap hcm hua hub (by omega)
  obtain ⟨A, acap, rfl⟩ := ha.form
  generalize b.length = n at h2 hsp hb hcap ⊢
  clear ca cb ha hb hua hub la lb hcap
  have hor : orI 0 0 0 = 0 := by decide
  go_enter Try.func14, Try.ntmps14
  go_wp2_with fail
  refine h1.mono ?_
  rintro e w2 ⟨rfl, hB2⟩
  have h2' := h2 w2 hB2
  clear h1 h2
  go_wp2_with fail
  refine h2'.mono ?_
  rintro e w3 ⟨rfl, hB3⟩
  have hB03 := hB2.trans (hB3.mono hB2.size)
  have hB04 := hB03.alloc hB03.size (.cells #[.int .i64 0, .int .i64 0] 25)
  have hs := hsp _ hB04
  clear h2' hB2 hB3 hsp
  go_wp2_with (first
    | (go_at_call 24; refine (first2_ok 0 0 _ _ _ ?_ ?_).mono ?_; (go_simp); (go_simp); rintro e w5 ⟨rfl, hw5⟩; subst hw5)
    | (go_at_call 35; refine hs.mono ?_; rintro e w6 ⟨v1, v2, rfl, ho1, ho2, hB6⟩))
  go_ret2
  exact ⟨_, rfl, ho2.mono hB04.size, hB04.trans (hB6.mono hB04.size)⟩
theorem less_bad (a b : List Cel) (va vb : Value) (w : World) (ha : Sl w va a) (hb : Sl w vb b) (la : a.length ≤ maxLen) (lb : b.length ≤ maxLen) (r : Int) (hr : orI (chkI a) (chkI b) 0 = r) (h0 : r ≠ 0) :
    Calls Try.prog 14 #[va, vb] w fun e w' => e = .returned (.tuple #[.slice none 0 0, .int .i64 r]) ∧ Below w.heap.size w w' := by
  have h1 := gridCheckG a va w ha la
  have h2 := fun W (h : Below w.heap.size w W) => gridCheckG b vb W (hb.below h) lb
  generalize chkI a = ra at h1 hr
  generalize chkI b = rb at h2 hr
  have hne : (r == 0) = false := by rw [beq_eq_false_iff_ne]; exact h0
  have hne' : (r != 0) = true := by rw [bne_iff_ne]; exact h0
  have hf2 := fun blk W => first2_ok ra rb blk 2 W
  simp only [hr] at hf2
  clear ha hb la lb hr h0
  go_enter Try.func14, Try.ntmps14
  go_wp2_with fail
  refine h1.mono ?_
  rintro e w2 ⟨rfl, hB2⟩
  have h2' := h2 w2 hB2
  clear h1 h2
  go_wp2_with fail
  refine h2'.mono ?_
  rintro e w3 ⟨rfl, hB3⟩
  have hB03 := hB2.trans (hB3.mono hB2.size)
  clear h2' hB2 hB3
  go_wp2_with (go_at_call 24; refine (hf2 _ _ ?_ ?_).mono ?_; (go_simp); (go_simp); rintro e w5 ⟨rfl, hw5⟩; subst hw5)
  go_ret2
  exact ⟨rfl, hB03.alloc hB03.size _⟩
end Go.Proofs
