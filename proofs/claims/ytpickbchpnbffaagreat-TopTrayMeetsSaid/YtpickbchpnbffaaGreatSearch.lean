import Derived.Test.YtpickbchpnbffaaGreatSplit
import Derived.Test.YtpickbchpnbffaaGreatBoundR
import Derived.Test.YtpickbchpnbffaaGreatDistP
import Derived.Test.YtpickbchpnbffaaGreatHas
import Derived.Deep.RegionHeld3
section
/- grid.Cut and grid.Less, for any two lists; the reference's HasCell. -/
namespace Go.Proofs
open Go.RowKit
set_option maxHeartbeats 8000000
set_option maxRecDepth 1000000
theorem cut_ok (a b : List Cel) (va : Value) (A' : Option Addr) (bcap : Nat) (w : World) (ha : Sl w va a) (hb : Sl w (.slice A' b.length bcap) b) (hcap : b.length ≤ bcap) (hcm : bcap ≤ 9223372036854775807) (ca : chkI a = 0) (cb : chkI b = 0) :
    Calls Tryz.prog 12 #[va, .slice A' b.length bcap] w fun e w' => ∃ v, e = .returned (.tuple #[v, .int .i64 0]) ∧ Own w' w.heap.size v (a.filter fun c => decide (c ∈ b)) ∧ Below w.heap.size w w' := by
  obtain ⟨la, _, hua⟩ := chk_up ca
  obtain ⟨lb, _, hub⟩ := chk_up cb
  have h1 := gridCheckG a va w ha (by unfold maxLen; omega)
  have h2 := fun W (h : Below w.heap.size w W) => gridCheckG b _ W (hb.below h) (by unfold maxLen; omega)
  rw [ca] at h1
  rw [cb] at h2
  have hsp := fun W (h : Below w.heap.size w W) => split_ok a b va A' bcap W (ha.below h) (hb.below h) hcap hcm hua hub (by omega)
  obtain ⟨A, acap, rfl⟩ := ha.form
  generalize b.length = n at h2 hsp hb hcap ⊢
  clear ca cb ha hb hua hub la lb hcap
  have hor : orI 0 0 0 = 0 := by decide
  go_enter Tryz.func12, Tryz.ntmps12
  go_wp2_with fail
  refine h1.mono ?_
  rintro e w2 ⟨rfl, hB2⟩
  have h2' := h2 w2 hB2
  clear h1 h2
  go_wp2_with fail
  refine h2'.mono ?_
  rintro e w3 ⟨rfl, hB3⟩
  have hB03 := hB2.trans (hB3.mono hB2.size)
  have hB04 := hB03.alloc hB03.size (.cells #[.int .i64 0, .int .i64 0] 28)
  have hs := hsp _ hB04
  clear h2' hB2 hB3 hsp
  go_wp2_with (first
    | (go_at_call 32; refine (first2_ok 0 0 _ _ _ ?_ ?_).mono ?_; (go_simp); (go_simp); rintro e w5 ⟨rfl, hw5⟩; subst hw5)
    | (go_at_call 38; refine hs.mono ?_; rintro e w6 ⟨v1, v2, rfl, ho1, ho2, hB6⟩))
  go_ret2
  exact ⟨_, rfl, ho1.mono hB04.size, hB04.trans (hB6.mono hB04.size)⟩
theorem cut_bad (a b : List Cel) (va vb : Value) (w : World) (ha : Sl w va a) (hb : Sl w vb b) (la : a.length ≤ maxLen) (lb : b.length ≤ maxLen) (r : Int) (hr : orI (chkI a) (chkI b) 0 = r) (h0 : r ≠ 0) :
    Calls Tryz.prog 12 #[va, vb] w fun e w' => e = .returned (.tuple #[.slice none 0 0, .int .i64 r]) ∧ Below w.heap.size w w' := by
  have h1 := gridCheckG a va w ha la
  have h2 := fun W (h : Below w.heap.size w W) => gridCheckG b vb W (hb.below h) lb
  generalize chkI a = ra at h1 hr
  generalize chkI b = rb at h2 hr
  have hne : (r == 0) = false := by rw [beq_eq_false_iff_ne]; exact h0
  have hne' : (r != 0) = true := by rw [bne_iff_ne]; exact h0
  have hf2 := fun blk W => first2_ok ra rb blk 2 W
  simp only [hr] at hf2
  clear ha hb la lb hr h0
  go_enter Tryz.func12, Tryz.ntmps12
  go_wp2_with fail
  refine h1.mono ?_
  rintro e w2 ⟨rfl, hB2⟩
  have h2' := h2 w2 hB2
  clear h1 h2
  go_wp2_with fail
  refine h2'.mono ?_
  rintro e w3 ⟨rfl, hB3⟩
  have hB03 := hB2.trans (hB3.mono hB2.size)
  clear h2' hB2 hB3
  go_wp2_with (go_at_call 32; refine (hf2 _ _ ?_ ?_).mono ?_; (go_simp); (go_simp); rintro e w5 ⟨rfl, hw5⟩; subst hw5)
  go_ret2
  exact ⟨rfl, hB03.alloc hB03.size _⟩
end Go.Proofs
end

section
/- Apart's search: the first of the cells whose X is near enough. -/
namespace Go.Proofs
open Go.RowKit
set_option maxHeartbeats 8000000
set_option maxRecDepth 1000000
theorem apart1_ok (i : Nat) (b2 o2 n kb : Nat) (x' cx m : Int) (p q r : Nat) (w : World) (hi : i < n) (hp : w.cell? ⟨p, 0, none⟩ = some (.slice (some ⟨b2, o2, none⟩) n kb)) (hb : w.cell? ⟨b2, o2 + i * 3, none⟩ = some (.int .i64 x')) (hq : w.cell? ⟨q, 0, none⟩ = some (.int .i64 cx)) (hr : w.cell? ⟨r, 0, none⟩ = some (.int .i64 m)) (hc : -9000000 ≤ cx - m ∧ cx - m ≤ 9000000) :
    Calls Tryz.prog 41 #[.int .i64 i, .pointer (some ⟨p, 0, none⟩), .pointer (some ⟨q, 0, none⟩), .pointer (some ⟨r, 0, none⟩)] w fun e w' => e = .returned (.bool (decide (cx - m < x'))) ∧ Below w.heap.size w w' := by
  have a1 := wrapS hc
  have h0 : (0 : Int) ≤ i := by omega
  have h1 : (i : Int) < n := by omega
  clear hc hi
  go_enter Tryz.func41, Tryz.ntmps41
  go_wp2
  go_quiet (fail)
  go_wp2
  go_ret
  exact ⟨rfl, ⟨rfl, rfl, rfl, Nat.le_refl _, fun _ _ => rfl⟩⟩
theorem search_ok (n : Nat) (hn : n ≤ 100000) (pr : Nat → Bool) (p q r : Nat) (w : World)
    (hf : ∀ i : Nat, i < n → ∀ W, Below w.heap.size w W → Calls Tryz.prog 41 #[.int .i64 i, .pointer (some ⟨p, 0, none⟩), .pointer (some ⟨q, 0, none⟩), .pointer (some ⟨r, 0, none⟩)] W fun e w' => e = .returned (.bool (pr i)) ∧ Below W.heap.size W w') :
    Calls Tryz.prog 40 #[.int .i64 n, .func (.func 41) #[] #[.pointer (some ⟨p, 0, none⟩), .pointer (some ⟨q, 0, none⟩), .pointer (some ⟨r, 0, none⟩)]] w fun e w' => ∃ k : Nat, e = .returned (.int .i64 k) ∧ k ≤ n ∧ (0 < k → pr (k - 1) = false) ∧ Below w.heap.size w w' := by
  go_enter Tryz.func40, Tryz.ntmps40
  go_wp2
  go_loopw [5, 6] (fun s t wr => ∃ i j : Nat, i ≤ j ∧ j ≤ n ∧ s = .int .i64 i ∧ t = .int .i64 j ∧ (0 < i → pr (i - 1) = false) ∧ Below w.heap.size w wr) (fun s t _ => (intOf t).toNat - (intOf s).toNat)
  case atStart => exact ⟨0, n, Nat.zero_le _, Nat.le_refl _, rfl, rfl, fun h => absurd h (Nat.lt_irrefl _), Below.refl _ _⟩
  case round =>
    obtain ⟨i, j, hij, hjn, rfl, rfl, hlo, hB⟩ := hrel
    rename World => w1
    have hLo := Lib.hid hlo
    clear hlo
    rcases Nat.lt_or_eq_of_le hij with hlt | rfl
    · obtain ⟨h, hh⟩ : ∃ h : Nat, h = (i + j) / 2 := ⟨_, rfl⟩
      have h1 : i ≤ h := by omega
      have h2 : h < j := by omega
      have hf1 := hf h (by omega) w1 hB
      have hlt' : (i : Int) < j := by omega
      have a1 := wrapS (n := (i : Int) + j) (by omega)
      have he : ((i : Int) + j) / 2 = h := by omega
      have a2 := wrapS (n := (h : Int) + 1) (by omega)
      clear hh hf
      cases hv : pr h with
      | true =>
        rw [hv] at hf1
        clear hv
        go_wp2_with (go_at_call 41; refine hf1.mono ?_; rintro e w2 ⟨rfl, hB2⟩)
        exact ⟨⟨i, h, h1, by omega, rfl, rfl, hLo.out, hB.trans (hB2.mono hB.size)⟩, by simp [intOf]; omega⟩
      | false =>
        rw [hv] at hf1
        have Hv := Lib.hid hv
        clear hv
        go_wp2_with (go_at_call 41; refine hf1.mono ?_; rintro e w2 ⟨rfl, hB2⟩)
        exact ⟨⟨h + 1, j, by omega, hjn, rfl, rfl, fun _ => by rw [Nat.add_sub_cancel]; exact Hv.out, hB.trans (hB2.mono hB.size)⟩, by simp [intOf]; omega⟩
    · clear hf
      go_wp2
      go_ret
      exact ⟨i, rfl, hjn, hLo.out, hB⟩
end Go.Proofs
end
