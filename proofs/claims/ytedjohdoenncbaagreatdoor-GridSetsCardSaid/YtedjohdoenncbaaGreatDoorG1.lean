/- Small functions of chapter 1's statements: OutCells, checkEach, the reference's Cut and Less. -/
import Derived.Test.YtedjohdoenncbaaGreatDoorCut
import Derived.Test.YtedjohdoenncbaaGreatDoorUnionG
import Derived.Test.YtedjohdoenncbaaGreatDoorUnionR
import Derived.Test.YtedjohdoenncbaaGreatDoorSlOps
namespace Go.Proofs
open Go.RowKit
set_option maxHeartbeats 8000000
set_option maxRecDepth 1000000
/-- The error of a list's cells, one by one. -/
def outI (l : List Cel) : Int := if l.any badC then 3 else 0
theorem outI_step {l : List Cel} {k : Nat} {c : Cel} (hc : l[k]? = some c) : outI (l.drop k) = if badC c then 3 else outI (l.drop (k + 1)) := by
  obtain ⟨h1, h2⟩ := List.getElem?_eq_some_iff.1 hc
  rw [List.drop_eq_getElem_cons h1, h2]
  unfold outI
  rw [List.any_cons]
  cases badC c <;> rfl
theorem outCells_ok (l : List Cel) (v : Value) (w : World) (hl : Sl w v l) (hn : l.length ≤ maxLen) :
    Calls Tryz.prog 19 #[v] w fun e w' => e = .returned (.int .i64 (outI l)) ∧ Below w.heap.size w w' := by
  unfold maxLen at hn
  obtain ⟨A, cap, rfl⟩ := hl.form
  go_enter Tryz.func19, Tryz.ntmps19
  go_wp2
  go_loopw [3] (fun i wr => ∃ k : Nat, k ≤ l.length ∧ i = .int .i64 k ∧ Below w.heap.size w wr ∧ outI (l.drop k) = outI l) (fun i _ => l.length - (intOf i).toNat)
  case atStart => exact ⟨0, Nat.zero_le _, rfl, Below.refl _ _, rfl⟩
  case round =>
    obtain ⟨k, hk, rfl, hBel, hch⟩ := hrel
    rename World => w1
    rcases Nat.lt_or_eq_of_le hk with hkn | rfl
    · obtain ⟨b, o, x, y, z, rfl, -, hb, hc, r0, r1, r2⟩ := hl.cells hkn
      rw [outI_step hc] at hch
      have hv := fun W => refCheckCellG x y z W
      have hsz := hBel.size
      rw [← hBel.cell (p := ⟨b, _, none⟩) hb] at r0 r1 r2
      cases hbad : badC (x, y, z) with
      | true =>
        rw [hbad] at hch hv
        simp only [if_true] at hch hv
        have Hch := Lib.hid hch
        clear hl hbad hch
        go_wp2_with (go_at_call 37; refine (hv _).mono ?_; rintro e w2 ⟨rfl, hB2⟩)
        go_ret
        exact ⟨by rw [← Hch.out]; rfl, hBel.trans (hB2.mono hsz)⟩
      | false =>
        rw [hbad] at hch hv
        simp only [Bool.false_eq_true, if_false] at hch hv
        have Hch := Lib.hid hch
        clear hl hbad hch
        go_wp2_with (go_at_call 37; refine (hv _).mono ?_; rintro e w2 ⟨rfl, hB2⟩)
        exact ⟨⟨k + 1, hkn, rfl, hBel.trans (hB2.mono hsz), Hch.out⟩, by simp [intOf]; omega⟩
    · have e : outI l = 0 := by rw [← hch]; simp [outI]
      have He := Lib.hid e
      clear hl hch e
      go_wp2
      go_ret
      exact ⟨by rw [He.out]; rfl, hBel⟩
theorem checkEachG (l : List Cel) (v : Value) (w : World) (hl : Sl w v l) (hn : l.length ≤ maxLen) :
    Calls Tryz.prog 79 #[v] w fun e w' => e = .returned (.int .i64 (outI l)) ∧ Below w.heap.size w w' := by
  unfold maxLen at hn
  obtain ⟨A, cap, rfl⟩ := hl.form
  go_enter Tryz.func79, Tryz.ntmps79
  go_wp2
  go_loopw [8] (fun i wr => ∃ k : Nat, k ≤ l.length ∧ i = .int .i64 k ∧ Below w.heap.size w wr ∧ outI (l.drop k) = outI l) (fun i _ => l.length - (intOf i).toNat)
  case atStart => exact ⟨0, Nat.zero_le _, rfl, Below.refl _ _, rfl⟩
  case round =>
    obtain ⟨k, hk, rfl, hBel, hch⟩ := hrel
    rename World => w1
    rcases Nat.lt_or_eq_of_le hk with hkn | rfl
    · obtain ⟨b, o, x, y, z, rfl, -, hb, hc, r0, r1, r2⟩ := hl.cells hkn
      rw [outI_step hc] at hch
      have hv := fun W => checkCellG x y z W
      have hsz := hBel.size
      rw [← hBel.cell (p := ⟨b, _, none⟩) hb] at r0 r1 r2
      have hA : Below w.heap.size w (w1.alloc (.cells #[.int .i64 x, .int .i64 y, .int .i64 z] 38)) := hBel.alloc hsz _
      have hAs : w.heap.size ≤ (w1.alloc (.cells #[.int .i64 x, .int .i64 y, .int .i64 z] 38)).heap.size := by simp; omega
      cases hbad : badC (x, y, z) with
      | true =>
        rw [hbad] at hch hv
        simp only [if_true] at hch hv
        have Hch := Lib.hid hch
        clear hl hbad hch
        go_wp2_with (go_at_call 77; refine (hv _).mono ?_; rintro e w2 ⟨rfl, hB2⟩)
        go_ret
        exact ⟨by rw [← Hch.out]; rfl, hA.trans (hB2.mono hAs)⟩
      | false =>
        rw [hbad] at hch hv
        simp only [Bool.false_eq_true, if_false] at hch hv
        have Hch := Lib.hid hch
        clear hl hbad hch
        go_wp2_with (go_at_call 77; refine (hv _).mono ?_; rintro e w2 ⟨rfl, hB2⟩)
        exact ⟨⟨k + 1, hkn, rfl, hA.trans (hB2.mono hAs), Hch.out⟩, by simp [intOf]; omega⟩
    · have e : outI l = 0 := by rw [← hch]; simp [outI]
      have He := Lib.hid e
      clear hl hch e
      go_wp2
      go_ret
      exact ⟨by rw [He.out]; rfl, hBel⟩
theorem refCut_ok (a b : List Cel) (va vb : Value) (w : World) (ha : Sl w va a) (hb : Sl w vb b) (la : a.length ≤ 400000) (lb : b.length ≤ 400000) :
    Calls Tryz.prog 23 #[va, vb] w fun e w' => ∃ v', e = .returned v' ∧ Own w' w.heap.size v' (a.filter fun c => decide (c ∈ b)) ∧ Below w.heap.size w w' := by
  obtain ⟨A, cap, rfl⟩ := ha.form
  obtain ⟨A', cap', rfl⟩ := hb.form
  go_enter Tryz.func23, Tryz.ntmps23
  go_wp2
  go_loopw [5, 6] (fun s i wr => ∃ k : Nat, k ≤ a.length ∧ i = .int .i64 k ∧ Own wr w.heap.size s ((a.take k).filter fun c => decide (c ∈ b)) ∧ Below w.heap.size w wr) (fun _ i _ => a.length - (intOf i).toNat)
  case atStart => exact ⟨0, Nat.zero_le _, rfl, Own.nil _ _, Below.refl _ _⟩
  case round =>
    obtain ⟨k, hk, rfl, hown, hBel⟩ := hrel
    rename World => w1
    rcases Nat.lt_or_eq_of_le hk with hkn | rfl
    · obtain ⟨bk, o, x, y, z, rfl, -, hbk, hc, r0, r1, r2⟩ := ha.cells hkn
      have hsz := hBel.size
      have R0 := (hBel.cell (p := ⟨bk, _, none⟩) hbk).trans r0
      have R1 := (hBel.cell (p := ⟨bk, _, none⟩) hbk).trans r1
      have R2 := (hBel.cell (p := ⟨bk, _, none⟩) hbk).trans r2
      have hh := has_ok b _ x y z w1 (hb.below hBel) (by omega)
      have hft := filter_take (f := fun c => decide (c ∈ b)) hc
      have hfl : ((a.take k).filter fun c => decide (c ∈ b)).length ≤ 400000 := Nat.le_trans (List.length_filter_le ..) (by rw [List.length_take]; omega)
      by_cases hin : (x, y, z) ∈ b
      · rw [decide_eq_true hin] at hh
        simp only [hin, decide_true, if_true] at hft
        have Hft := Lib.hid hft
        clear ha hb hc hin hft
        go_wp2_with (first
          | (go_at_call 49; refine hh.mono ?_; rintro e w2 ⟨rfl, hB2⟩
             have S0 := (hB2.cell (p := ⟨bk, _, none⟩) (Nat.lt_of_lt_of_le hbk hsz)).trans R0
             have S1 := (hB2.cell (p := ⟨bk, _, none⟩) (Nat.lt_of_lt_of_le hbk hsz)).trans R1
             have S2 := (hB2.cell (p := ⟨bk, _, none⟩) (Nat.lt_of_lt_of_le hbk hsz)).trans R2
             have hown2 := (hown.keep hB2).alloc (.cells #[.int .i64 x, .int .i64 y, .int .i64 z] 38)
             have hBa : Below w.heap.size w (w2.alloc (.cells #[.int .i64 x, .int .i64 y, .int .i64 z] 38)) := (hBel.trans (hB2.mono hsz)).alloc (Nat.le_trans hsz hB2.size) _
             clear r0 r1 r2 R0 R1 R2)
          | (at_builtin; refine wpList_append_sl rfl _ _ rfl w.heap.size ?cE _ _ rfl hown2 _ [(x, y, z)] rfl (.inr ⟨_, 1, rfl, row_one w2 x y z⟩) ?cC ?_))
        case cC => simp; omega
        case cE => exact hBa.size
        intro v1 w3 hown3 hB3
        go_wp2
        exact ⟨⟨k + 1, hkn, rfl, by rw [Hft.out]; exact hown3, hBa.trans hB3⟩, by simp [intOf]; omega⟩
      · rw [decide_eq_false hin] at hh
        simp only [hin, decide_false, Bool.false_eq_true, if_false, List.append_nil] at hft
        have Hft := Lib.hid hft
        clear ha hb hc hin hft
        go_wp2_with (go_at_call 49; refine hh.mono ?_; rintro e w2 ⟨rfl, hB2⟩)
        exact ⟨⟨k + 1, hkn, rfl, by rw [Hft.out]; exact hown.keep hB2, hBel.trans (hB2.mono hsz)⟩, by simp [intOf]; omega⟩
    · rw [List.take_length] at hown
      clear ha hb
      go_wp2
      go_ret
      exact ⟨_, rfl, hown, hBel⟩
theorem refLess_ok (a b : List Cel) (va vb : Value) (w : World) (ha : Sl w va a) (hb : Sl w vb b) (la : a.length ≤ 400000) (lb : b.length ≤ 400000) :
    Calls Tryz.prog 24 #[va, vb] w fun e w' => ∃ v', e = .returned v' ∧ Own w' w.heap.size v' (a.filter fun c => !decide (c ∈ b)) ∧ Below w.heap.size w w' := by
  obtain ⟨A, cap, rfl⟩ := ha.form
  obtain ⟨A', cap', rfl⟩ := hb.form
  go_enter Tryz.func24, Tryz.ntmps24
  go_wp2
  go_loopw [5, 6] (fun s i wr => ∃ k : Nat, k ≤ a.length ∧ i = .int .i64 k ∧ Own wr w.heap.size s ((a.take k).filter fun c => !decide (c ∈ b)) ∧ Below w.heap.size w wr) (fun _ i _ => a.length - (intOf i).toNat)
  case atStart => exact ⟨0, Nat.zero_le _, rfl, Own.nil _ _, Below.refl _ _⟩
  case round =>
    obtain ⟨k, hk, rfl, hown, hBel⟩ := hrel
    rename World => w1
    rcases Nat.lt_or_eq_of_le hk with hkn | rfl
    · obtain ⟨bk, o, x, y, z, rfl, -, hbk, hc, r0, r1, r2⟩ := ha.cells hkn
      have hsz := hBel.size
      have R0 := (hBel.cell (p := ⟨bk, _, none⟩) hbk).trans r0
      have R1 := (hBel.cell (p := ⟨bk, _, none⟩) hbk).trans r1
      have R2 := (hBel.cell (p := ⟨bk, _, none⟩) hbk).trans r2
      have hh := has_ok b _ x y z w1 (hb.below hBel) (by omega)
      have hft := filter_take (f := fun c => !decide (c ∈ b)) hc
      have hfl : ((a.take k).filter fun c => !decide (c ∈ b)).length ≤ 400000 := Nat.le_trans (List.length_filter_le ..) (by rw [List.length_take]; omega)
      by_cases hin : (x, y, z) ∈ b
      · rw [decide_eq_true hin] at hh
        simp only [hin, decide_true, Bool.not_true, Bool.false_eq_true, if_false, List.append_nil] at hft
        have Hft := Lib.hid hft
        clear ha hb hc hin hft
        go_wp2_with (go_at_call 49; refine hh.mono ?_; rintro e w2 ⟨rfl, hB2⟩)
        exact ⟨⟨k + 1, hkn, rfl, by rw [Hft.out]; exact hown.keep hB2, hBel.trans (hB2.mono hsz)⟩, by simp [intOf]; omega⟩
      · rw [decide_eq_false hin] at hh
        simp only [hin, decide_false, Bool.not_false, if_true] at hft
        have Hft := Lib.hid hft
        clear ha hb hc hin hft
        go_wp2_with (first
          | (go_at_call 49; refine hh.mono ?_; rintro e w2 ⟨rfl, hB2⟩
             have S0 := (hB2.cell (p := ⟨bk, _, none⟩) (Nat.lt_of_lt_of_le hbk hsz)).trans R0
             have S1 := (hB2.cell (p := ⟨bk, _, none⟩) (Nat.lt_of_lt_of_le hbk hsz)).trans R1
             have S2 := (hB2.cell (p := ⟨bk, _, none⟩) (Nat.lt_of_lt_of_le hbk hsz)).trans R2
             have hown2 := (hown.keep hB2).alloc (.cells #[.int .i64 x, .int .i64 y, .int .i64 z] 38)
             have hBa : Below w.heap.size w (w2.alloc (.cells #[.int .i64 x, .int .i64 y, .int .i64 z] 38)) := (hBel.trans (hB2.mono hsz)).alloc (Nat.le_trans hsz hB2.size) _
             clear r0 r1 r2 R0 R1 R2)
          | (at_builtin; refine wpList_append_sl rfl _ _ rfl w.heap.size ?cE _ _ rfl hown2 _ [(x, y, z)] rfl (.inr ⟨_, 1, rfl, row_one w2 x y z⟩) ?cC ?_))
        case cC => simp; omega
        case cE => exact hBa.size
        intro v1 w3 hown3 hB3
        go_wp2
        exact ⟨⟨k + 1, hkn, rfl, by rw [Hft.out]; exact hown3, hBa.trans hB3⟩, by simp [intOf]; omega⟩
    · rw [List.take_length] at hown
      clear ha hb
      go_wp2
      go_ret
      exact ⟨_, rfl, hown, hBel⟩
end Go.Proofs
