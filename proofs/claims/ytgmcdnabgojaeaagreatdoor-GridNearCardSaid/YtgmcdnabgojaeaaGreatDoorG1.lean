/- Small functions of chapter 1's statements: OutCells, checkEach, the reference's Cut and Less. -/
import Derived.Test.YtgmcdnabgojaeaaGreatDoorHas
import Derived.Test.YtgmcdnabgojaeaaGreatDoorOutP
import Derived.Test.YtgmcdnabgojaeaaGreatDoorUnionR
import Derived.Test.YtgmcdnabgojaeaaGreatDoorStepA
import Derived.Test.YtgmcdnabgojaeaaGreatDoorFewR
import Derived.Test.YtgmcdnabgojaeaaGreatDoorShrinkG
namespace Go.Proofs
open Go.RowKit
set_option maxHeartbeats 8000000
set_option maxRecDepth 1000000
theorem refCut_ok (a b : List Cel) (va vb : Value) (w : World) (ha : Sl w va a) (hb : Sl w vb b) (la : a.length ≤ 400000) (lb : b.length ≤ 400000) :
    Calls Tryz.prog 17 #[va, vb] w fun e w' => ∃ v', e = .returned v' ∧ Own w' w.heap.size v' (a.filter fun c => decide (c ∈ b)) ∧ Below w.heap.size w w' := by
  obtain ⟨A, cap, rfl⟩ := ha.form
  obtain ⟨A', cap', rfl⟩ := hb.form
  go_enter Tryz.func17, Tryz.ntmps17
  go_wp2
  go_loopw [5, 6] (fun s i wr => ∃ k : Nat, k ≤ a.length ∧ i = .int .i64 k ∧ Own wr w.heap.size s ((a.take k).filter fun c => decide (c ∈ b)) ∧ Below w.heap.size w wr) (fun _ i _ => a.length - (intOf i).toNat)
  case atStart => exact ⟨0, Nat.zero_le _, rfl, Own.nil _ _, Below.refl _ _⟩
  case round =>
    obtain ⟨k, hk, rfl, hown, hBel⟩ := hrel
    rename World => w1
    rcases Nat.lt_or_eq_of_le hk with hkn | rfl
    · obtain ⟨bk, o, x, y, z, rfl, -, hbk, hc, r0, r1, r2⟩ := ha.cells hkn
      have hsz := hBel.size
      have R0 := (hBel.cell (p := ⟨bk, _, none⟩) hbk).trans r0
      have R1 := (hBel.cell (p := ⟨bk, _, none⟩) hbk).trans r1
      have R2 := (hBel.cell (p := ⟨bk, _, none⟩) hbk).trans r2
      have hh := has_ok b _ x y z w1 (hb.below hBel) (by omega)
      have hft := filter_take1 (f := fun c => decide (c ∈ b)) hc
      have hfl : ((a.take k).filter fun c => decide (c ∈ b)).length ≤ 400000 := Nat.le_trans (List.length_filter_le ..) (by rw [List.length_take]; omega)
      by_cases hin : (x, y, z) ∈ b
      · rw [decide_eq_true hin] at hh
        simp only [hin, decide_true, if_true] at hft
        have Hft := Lib.hid hft
        clear ha hb hc hin hft
        go_wp2_with (first
          | (go_at_call 14; refine hh.mono ?_; rintro e w2 ⟨rfl, hB2⟩
             have S0 := (hB2.cell (p := ⟨bk, _, none⟩) (Nat.lt_of_lt_of_le hbk hsz)).trans R0
             have S1 := (hB2.cell (p := ⟨bk, _, none⟩) (Nat.lt_of_lt_of_le hbk hsz)).trans R1
             have S2 := (hB2.cell (p := ⟨bk, _, none⟩) (Nat.lt_of_lt_of_le hbk hsz)).trans R2
             have hown2 := (hown.keep hB2).alloc (.cells #[.int .i64 x, .int .i64 y, .int .i64 z] 25)
             have hBa : Below w.heap.size w (w2.alloc (.cells #[.int .i64 x, .int .i64 y, .int .i64 z] 25)) := (hBel.trans (hB2.mono hsz)).alloc (Nat.le_trans hsz hB2.size) _
             clear r0 r1 r2 R0 R1 R2)
          | (at_builtin; refine wpList_append_sl rfl _ _ rfl w.heap.size ?cE _ _ rfl hown2 _ [(x, y, z)] rfl (.inr ⟨_, 1, rfl, row_one w2 x y z⟩) ?cC ?_))
        case cC => simp; omega
        case cE => exact hBa.size
        intro v1 w3 hown3 hB3
        go_wp2
        exact ⟨⟨k + 1, hkn, rfl, by rw [Hft.out]; exact hown3, hBa.trans hB3⟩, by simp [intOf]; omega⟩
      · rw [decide_eq_false hin] at hh
        simp only [hin, decide_false, Bool.false_eq_true, if_false, List.append_nil] at hft
        have Hft := Lib.hid hft
        clear ha hb hc hin hft
        go_wp2_with (go_at_call 14; refine hh.mono ?_; rintro e w2 ⟨rfl, hB2⟩)
        exact ⟨⟨k + 1, hkn, rfl, by rw [Hft.out]; exact hown.keep hB2, hBel.trans (hB2.mono hsz)⟩, by simp [intOf]; omega⟩
    · rw [List.take_length] at hown
      clear ha hb
      go_wp2
      go_ret
      exact ⟨_, rfl, hown, hBel⟩
theorem refLess_ok (a b : List Cel) (va vb : Value) (w : World) (ha : Sl w va a) (hb : Sl w vb b) (la : a.length ≤ 400000) (lb : b.length ≤ 400000) :
    Calls Tryz.prog 15 #[va, vb] w fun e w' => ∃ v', e = .returned v' ∧ Own w' w.heap.size v' (a.filter fun c => !decide (c ∈ b)) ∧ Below w.heap.size w w' := by
  obtain ⟨A, cap, rfl⟩ := ha.form
  obtain ⟨A', cap', rfl⟩ := hb.form
  go_enter Tryz.func15, Tryz.ntmps15
  go_wp2
  go_loopw [5, 6] (fun s i wr => ∃ k : Nat, k ≤ a.length ∧ i = .int .i64 k ∧ Own wr w.heap.size s ((a.take k).filter fun c => !decide (c ∈ b)) ∧ Below w.heap.size w wr) (fun _ i _ => a.length - (intOf i).toNat)
  case atStart => exact ⟨0, Nat.zero_le _, rfl, Own.nil _ _, Below.refl _ _⟩
  case round =>
    obtain ⟨k, hk, rfl, hown, hBel⟩ := hrel
    rename World => w1
    rcases Nat.lt_or_eq_of_le hk with hkn | rfl
    · obtain ⟨bk, o, x, y, z, rfl, -, hbk, hc, r0, r1, r2⟩ := ha.cells hkn
      have hsz := hBel.size
      have R0 := (hBel.cell (p := ⟨bk, _, none⟩) hbk).trans r0
      have R1 := (hBel.cell (p := ⟨bk, _, none⟩) hbk).trans r1
      have R2 := (hBel.cell (p := ⟨bk, _, none⟩) hbk).trans r2
      have hh := has_ok b _ x y z w1 (hb.below hBel) (by omega)
      have hft := filter_take1 (f := fun c => !decide (c ∈ b)) hc
      have hfl : ((a.take k).filter fun c => !decide (c ∈ b)).length ≤ 400000 := Nat.le_trans (List.length_filter_le ..) (by rw [List.length_take]; omega)
      by_cases hin : (x, y, z) ∈ b
      · rw [decide_eq_true hin] at hh
        simp only [hin, decide_true, Bool.not_true, Bool.false_eq_true, if_false, List.append_nil] at hft
        have Hft := Lib.hid hft
        clear ha hb hc hin hft
        go_wp2_with (go_at_call 14; refine hh.mono ?_; rintro e w2 ⟨rfl, hB2⟩)
        exact ⟨⟨k + 1, hkn, rfl, by rw [Hft.out]; exact hown.keep hB2, hBel.trans (hB2.mono hsz)⟩, by simp [intOf]; omega⟩
      · rw [decide_eq_false hin] at hh
        simp only [hin, decide_false, Bool.not_false, if_true] at hft
        have Hft := Lib.hid hft
        clear ha hb hc hin hft
        go_wp2_with (first
          | (go_at_call 14; refine hh.mono ?_; rintro e w2 ⟨rfl, hB2⟩
             have S0 := (hB2.cell (p := ⟨bk, _, none⟩) (Nat.lt_of_lt_of_le hbk hsz)).trans R0
             have S1 := (hB2.cell (p := ⟨bk, _, none⟩) (Nat.lt_of_lt_of_le hbk hsz)).trans R1
             have S2 := (hB2.cell (p := ⟨bk, _, none⟩) (Nat.lt_of_lt_of_le hbk hsz)).trans R2
             have hown2 := (hown.keep hB2).alloc (.cells #[.int .i64 x, .int .i64 y, .int .i64 z] 25)
             have hBa : Below w.heap.size w (w2.alloc (.cells #[.int .i64 x, .int .i64 y, .int .i64 z] 25)) := (hBel.trans (hB2.mono hsz)).alloc (Nat.le_trans hsz hB2.size) _
             clear r0 r1 r2 R0 R1 R2)
          | (at_builtin; refine wpList_append_sl rfl _ _ rfl w.heap.size ?cE _ _ rfl hown2 _ [(x, y, z)] rfl (.inr ⟨_, 1, rfl, row_one w2 x y z⟩) ?cC ?_))
        case cC => simp; omega
        case cE => exact hBa.size
        intro v1 w3 hown3 hB3
        go_wp2
        exact ⟨⟨k + 1, hkn, rfl, by rw [Hft.out]; exact hown3, hBa.trans hB3⟩, by simp [intOf]; omega⟩
    · rw [List.take_length] at hown
      clear ha hb
      go_wp2
      go_ret
      exact ⟨_, rfl, hown, hBel⟩
end Go.Proofs
