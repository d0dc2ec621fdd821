import Derived.Test.YtedjohdoenncbaaGreatDoorCut
import Derived.Test.YtedjohdoenncbaaGreatDoorUnionG
import Derived.Test.YtedjohdoenncbaaGreatDoorUnionR
import Derived.Test.YtedjohdoenncbaaGreatDoorSlOps
import Derived.Test.YtedjohdoenncbaaGreatDoorSl
section
/- Small functions of chapter 1's statements: OutCells, checkEach, the reference's Cut and Less. -/
namespace Go.Proofs
open Go.RowKit
set_option maxHeartbeats 8000000
set_option maxRecDepth 1000000
/-- The error of a list's cells, one by one. -/
def outI (l : List Cel) : Int := if l.any badC then 3 else 0
theorem outI_step {l : List Cel} {k : Nat} {c : Cel} (hc : l[k]? = some c) : outI (l.drop k) = if badC c then 3 else outI (l.drop (k + 1)) := by
  obtain ⟨h1, h2⟩ := List.getElem?_eq_some_iff.1 hc
  rw [List.drop_eq_getElem_cons h1, h2]
  unfold outI
  rw [List.any_cons]
  cases badC c <;> rfl
theorem outCells_ok (l : List Cel) (v : Value) (w : World) (hl : Sl w v l) (hn : l.length ≤ maxLen) :
    Calls Tryz.prog 19 #[v] w fun e w' => e = .returned (.int .i64 (outI l)) ∧ Below w.heap.size w w' := by
  unfold maxLen at hn
  obtain ⟨A, cap, rfl⟩ := hl.form
  go_enter Tryz.func19, Tryz.ntmps19
  go_wp2
  go_loopw [3] (fun i wr => ∃ k : Nat, k ≤ l.length ∧ i = .int .i64 k ∧ Below w.heap.size w wr ∧ outI (l.drop k) = outI l) (fun i _ => l.length - (intOf i).toNat)
  case atStart => exact ⟨0, Nat.zero_le _, rfl, Below.refl _ _, rfl⟩
  case round =>
    obtain ⟨k, hk, rfl, hBel, hch⟩ := hrel
    rename World => w1
    rcases Nat.lt_or_eq_of_le hk with hkn | rfl
    · obtain ⟨b, o, x, y, z, rfl, -, hb, hc, r0, r1, r2⟩ := hl.cells hkn
      rw [outI_step hc] at hch
      have hv := fun W => refCheckCellG x y z W
      have hsz := hBel.size
      rw [← hBel.cell (p := ⟨b, _, none⟩) hb] at r0 r1 r2
      cases hbad : badC (x, y, z) with
      | true =>
        rw [hbad] at hch hv
        simp only [if_true] at hch hv
        have Hch := Lib.hid hch
        clear hl hbad hch
        go_wp2_with (go_at_call 37; refine (hv _).mono ?_; rintro e w2 ⟨rfl, hB2⟩)
        go_ret
        exact ⟨by rw [← Hch.out]; rfl, hBel.trans (hB2.mono hsz)⟩
      | false =>
        rw [hbad] at hch hv
        simp only [Bool.false_eq_true, if_false] at hch hv
        have Hch := Lib.hid hch
        clear hl hbad hch
        go_wp2_with (go_at_call 37; refine (hv _).mono ?_; rintro e w2 ⟨rfl, hB2⟩)
        exact ⟨⟨k + 1, hkn, rfl, hBel.trans (hB2.mono hsz), Hch.out⟩, by simp [intOf]; omega⟩
    · have e : outI l = 0 := by rw [← hch]; simp [outI]
      have He := Lib.hid e
      clear hl hch e
      go_wp2
      go_ret
      exact ⟨by rw [He.out]; rfl, hBel⟩
theorem checkEachG (l : List Cel) (v : Value) (w : World) (hl : Sl w v l) (hn : l.length ≤ maxLen) :
    Calls Tryz.prog 79 #[v] w fun e w' => e = .returned (.int .i64 (outI l)) ∧ Below w.heap.size w w' := by
  unfold maxLen at hn
  obtain ⟨A, cap, rfl⟩ := hl.form
  go_enter Tryz.func79, Tryz.ntmps79
  go_wp2
  go_loopw [8] (fun i wr => ∃ k : Nat, k ≤ l.length ∧ i = .int .i64 k ∧ Below w.heap.size w wr ∧ outI (l.drop k) = outI l) (fun i _ => l.length - (intOf i).toNat)
  case atStart => exact ⟨0, Nat.zero_le _, rfl, Below.refl _ _, rfl⟩
  case round =>
    obtain ⟨k, hk, rfl, hBel, hch⟩ := hrel
    rename World => w1
    rcases Nat.lt_or_eq_of_le hk with hkn | rfl
    · obtain ⟨b, o, x, y, z, rfl, -, hb, hc, r0, r1, r2⟩ := hl.cells hkn
      rw [outI_step hc] at hch
      have hv := fun W => checkCellG x y z W
      have hsz := hBel.size
      rw [← hBel.cell (p := ⟨b, _, none⟩) hb] at r0 r1 r2
      have hA : Below w.heap.size w (w1.alloc (.cells #[.int .i64 x, .int .i64 y, .int .i64 z] 38)) := hBel.alloc hsz _
      have hAs : w.heap.size ≤ (w1.alloc (.cells #[.int .i64 x, .int .i64 y, .int .i64 z] 38)).heap.size := by simp; omega
      cases hbad : badC (x, y, z) with
      | true =>
        rw [hbad] at hch hv
        simp only [if_true] at hch hv
        have Hch := Lib.hid hch
        clear hl hbad hch
        go_wp2_with (go_at_call 77; refine (hv _).mono ?_; rintro e w2 ⟨rfl, hB2⟩)
        go_ret
        exact ⟨by rw [← Hch.out]; rfl, hA.trans (hB2.mono hAs)⟩
      | false =>
        rw [hbad] at hch hv
        simp only [Bool.false_eq_true, if_false] at hch hv
        have Hch := Lib.hid hch
        clear hl hbad hch
        go_wp2_with (go_at_call 77; refine (hv _).mono ?_; rintro e w2 ⟨rfl, hB2⟩)
        exact ⟨⟨k + 1, hkn, rfl, hA.trans (hB2.mono hAs), Hch.out⟩, by simp [intOf]; omega⟩
    · have e : outI l = 0 := by rw [← hch]; simp [outI]
      have He := Lib.hid e
      clear hl hch e
      go_wp2
      go_ret
      exact ⟨by rw [He.out]; rfl, hBel⟩
theorem refCut_ok (a b : List Cel) (va vb : Value) (w : World) (ha : Sl w va a) (hb : Sl w vb b) (la : a.length ≤ 400000) (lb : b.length ≤ 400000) :
    Calls Tryz.prog 23 #[va, vb] w fun e w' => ∃ v', e = .returned v' ∧ Own w' w.heap.size v' (a.filter fun c => decide (c ∈ b)) ∧ Below w.heap.size w w' := by
  obtain ⟨A, cap, rfl⟩ := ha.form
  obtain ⟨A', cap', rfl⟩ := hb.form
  go_enter Tryz.func23, Tryz.ntmps23
  go_wp2
  go_loopw [5, 6] (fun s i wr => ∃ k : Nat, k ≤ a.length ∧ i = .int .i64 k ∧ Own wr w.heap.size s ((a.take k).filter fun c => decide (c ∈ b)) ∧ Below w.heap.size w wr) (fun _ i _ => a.length - (intOf i).toNat)
  case atStart => exact ⟨0, Nat.zero_le _, rfl, Own.nil _ _, Below.refl _ _⟩
  case round =>
    obtain ⟨k, hk, rfl, hown, hBel⟩ := hrel
    rename World => w1
    rcases Nat.lt_or_eq_of_le hk with hkn | rfl
    · obtain ⟨bk, o, x, y, z, rfl, -, hbk, hc, r0, r1, r2⟩ := ha.cells hkn
      have hsz := hBel.size
      have R0 := (hBel.cell (p := ⟨bk, _, none⟩) hbk).trans r0
      have R1 := (hBel.cell (p := ⟨bk, _, none⟩) hbk).trans r1
      have R2 := (hBel.cell (p := ⟨bk, _, none⟩) hbk).trans r2
      have hh := has_ok b _ x y z w1 (hb.below hBel) (by omega)
      have hft := filter_take (f := fun c => decide (c ∈ b)) hc
      have hfl : ((a.take k).filter fun c => decide (c ∈ b)).length ≤ 400000 := Nat.le_trans (List.length_filter_le ..) (by rw [List.length_take]; omega)
      by_cases hin : (x, y, z) ∈ b
      · rw [decide_eq_true hin] at hh
        simp only [hin, decide_true, if_true] at hft
        have Hft := Lib.hid hft
        clear ha hb hc hin hft
        go_wp2_with (first
          | (go_at_call 49; refine hh.mono ?_; rintro e w2 ⟨rfl, hB2⟩
             have S0 := (hB2.cell (p := ⟨bk, _, none⟩) (Nat.lt_of_lt_of_le hbk hsz)).trans R0
             have S1 := (hB2.cell (p := ⟨bk, _, none⟩) (Nat.lt_of_lt_of_le hbk hsz)).trans R1
             have S2 := (hB2.cell (p := ⟨bk, _, none⟩) (Nat.lt_of_lt_of_le hbk hsz)).trans R2
             have hown2 := (hown.keep hB2).alloc (.cells #[.int .i64 x, .int .i64 y, .int .i64 z] 38)
             have hBa : Below w.heap.size w (w2.alloc (.cells #[.int .i64 x, .int .i64 y, .int .i64 z] 38)) := (hBel.trans (hB2.mono hsz)).alloc (Nat.le_trans hsz hB2.size) _
             clear r0 r1 r2 R0 R1 R2)
          | (at_builtin; refine wpList_append_sl rfl _ _ rfl w.heap.size ?cE _ _ rfl hown2 _ [(x, y, z)] rfl (.inr ⟨_, 1, rfl, row_one w2 x y z⟩) ?cC ?_))
        case cC => simp; omega
        case cE => exact hBa.size
        intro v1 w3 hown3 hB3
        go_wp2
        exact ⟨⟨k + 1, hkn, rfl, by rw [Hft.out]; exact hown3, hBa.trans hB3⟩, by simp [intOf]; omega⟩
      · rw [decide_eq_false hin] at hh
        simp only [hin, decide_false, Bool.false_eq_true, if_false, List.append_nil] at hft
        have Hft := Lib.hid hft
        clear ha hb hc hin hft
        go_wp2_with (go_at_call 49; refine hh.mono ?_; rintro e w2 ⟨rfl, hB2⟩)
        exact ⟨⟨k + 1, hkn, rfl, by rw [Hft.out]; exact hown.keep hB2, hBel.trans (hB2.mono hsz)⟩, by simp [intOf]; omega⟩
    · rw [List.take_length] at hown
      clear ha hb
      go_wp2
      go_ret
      exact ⟨_, rfl, hown, hBel⟩
theorem refLess_ok (a b : List Cel) (va vb : Value) (w : World) (ha : Sl w va a) (hb : Sl w vb b) (la : a.length ≤ 400000) (lb : b.length ≤ 400000) :
    Calls Tryz.prog 24 #[va, vb] w fun e w' => ∃ v', e = .returned v' ∧ Own w' w.heap.size v' (a.filter fun c => !decide (c ∈ b)) ∧ Below w.heap.size w w' := by
  obtain ⟨A, cap, rfl⟩ := ha.form
  obtain ⟨A', cap', rfl⟩ := hb.form
  go_enter Tryz.func24, Tryz.ntmps24
  go_wp2
  go_loopw [5, 6] (fun s i wr => ∃ k : Nat, k ≤ a.length ∧ i = .int .i64 k ∧ Own wr w.heap.size s ((a.take k).filter fun c => !decide (c ∈ b)) ∧ Below w.heap.size w wr) (fun _ i _ => a.length - (intOf i).toNat)
  case atStart => exact ⟨0, Nat.zero_le _, rfl, Own.nil _ _, Below.refl _ _⟩
  case round =>
    obtain ⟨k, hk, rfl, hown, hBel⟩ := hrel
    rename World => w1
    rcases Nat.lt_or_eq_of_le hk with hkn | rfl
    · obtain ⟨bk, o, x, y, z, rfl, -, hbk, hc, r0, r1, r2⟩ := ha.cells hkn
      have hsz := hBel.size
      have R0 := (hBel.cell (p := ⟨bk, _, none⟩) hbk).trans r0
      have R1 := (hBel.cell (p := ⟨bk, _, none⟩) hbk).trans r1
      have R2 := (hBel.cell (p := ⟨bk, _, none⟩) hbk).trans r2
      have hh := has_ok b _ x y z w1 (hb.below hBel) (by omega)
      have hft := filter_take (f := fun c => !decide (c ∈ b)) hc
      have hfl : ((a.take k).filter fun c => !decide (c ∈ b)).length ≤ 400000 := Nat.le_trans (List.length_filter_le ..) (by rw [List.length_take]; omega)
      by_cases hin : (x, y, z) ∈ b
      · rw [decide_eq_true hin] at hh
        simp only [hin, decide_true, Bool.not_true, Bool.false_eq_true, if_false, List.append_nil] at hft
        have Hft := Lib.hid hft
        clear ha hb hc hin hft
        go_wp2_with (go_at_call 49; refine hh.mono ?_; rintro e w2 ⟨rfl, hB2⟩)
        exact ⟨⟨k + 1, hkn, rfl, by rw [Hft.out]; exact hown.keep hB2, hBel.trans (hB2.mono hsz)⟩, by simp [intOf]; omega⟩
      · rw [decide_eq_false hin] at hh
        simp only [hin, decide_false, Bool.not_false, if_true] at hft
        have Hft := Lib.hid hft
        clear ha hb hc hin hft
        go_wp2_with (first
          | (go_at_call 49; refine hh.mono ?_; rintro e w2 ⟨rfl, hB2⟩
             have S0 := (hB2.cell (p := ⟨bk, _, none⟩) (Nat.lt_of_lt_of_le hbk hsz)).trans R0
             have S1 := (hB2.cell (p := ⟨bk, _, none⟩) (Nat.lt_of_lt_of_le hbk hsz)).trans R1
             have S2 := (hB2.cell (p := ⟨bk, _, none⟩) (Nat.lt_of_lt_of_le hbk hsz)).trans R2
             have hown2 := (hown.keep hB2).alloc (.cells #[.int .i64 x, .int .i64 y, .int .i64 z] 38)
             have hBa : Below w.heap.size w (w2.alloc (.cells #[.int .i64 x, .int .i64 y, .int .i64 z] 38)) := (hBel.trans (hB2.mono hsz)).alloc (Nat.le_trans hsz hB2.size) _
             clear r0 r1 r2 R0 R1 R2)
          | (at_builtin; refine wpList_append_sl rfl _ _ rfl w.heap.size ?cE _ _ rfl hown2 _ [(x, y, z)] rfl (.inr ⟨_, 1, rfl, row_one w2 x y z⟩) ?cC ?_))
        case cC => simp; omega
        case cE => exact hBa.size
        intro v1 w3 hown3 hB3
        go_wp2
        exact ⟨⟨k + 1, hkn, rfl, by rw [Hft.out]; exact hown3, hBa.trans hB3⟩, by simp [intOf]; omega⟩
    · rw [List.take_length] at hown
      clear ha hb
      go_wp2
      go_ret
      exact ⟨_, rfl, hown, hBel⟩
end Go.Proofs
end

section
/- Small functions of chapter 1's statements: first, when, ShortCells, cells; grid.Sorted. -/
namespace Go.Proofs
open Go.RowKit
set_option maxHeartbeats 8000000
set_option maxRecDepth 1000000
theorem when_ok (b : Bool) (n : Int) (w : World) :
    Calls Tryz.prog 18 #[.bool b, .int .i64 n] w fun e w' => e = .returned (.int .i64 (if b then n else 0)) ∧ w' = w := by
  cases b <;>
  · go_enter Tryz.func18, Tryz.ntmps18
    go_wp2
    go_ret
    exact ⟨rfl, rfl⟩
def shortB (n : Nat) (m : Int) : Bool := decide ((n : Int) ≤ m) || (decide (4096 < n) && decide (n ≤ 4098))
theorem short_ok (A : Option Addr) (n cap : Nat) (m : Int) (w : World) :
    Calls Tryz.prog 10 #[.slice A n cap, .int .i64 m] w fun e w' => e = .returned (.bool (shortB n m)) ∧ w' = w := by
  by_cases h1 : (n : Int) ≤ m
  · have e : shortB n m = true := by unfold shortB; rw [decide_eq_true h1]; rfl
    rw [e]
    clear e
    go_enter Tryz.func10, Tryz.ntmps10
    go_wp2
    go_ret
    exact ⟨rfl, rfl⟩
  · by_cases h2 : (4096 : Int) < n
    · by_cases h3 : (n : Int) ≤ 4098
      · have e : shortB n m = true := by unfold shortB; rw [decide_eq_false h1, decide_eq_true (by omega : 4096 < n), decide_eq_true (by omega : n ≤ 4098)]; rfl
        rw [e]
        clear e
        go_enter Tryz.func10, Tryz.ntmps10
        go_wp2
        go_ret
        exact ⟨rfl, rfl⟩
      · have e : shortB n m = false := by unfold shortB; rw [decide_eq_false h1, decide_eq_true (by omega : 4096 < n), decide_eq_false (by omega : ¬ n ≤ 4098)]; rfl
        rw [e]
        clear e
        go_enter Tryz.func10, Tryz.ntmps10
        go_wp2
        go_ret
        exact ⟨rfl, rfl⟩
    · have e : shortB n m = false := by unfold shortB; rw [decide_eq_false h1, decide_eq_false (by omega : ¬ 4096 < n)]; rfl
      rw [e]
      clear e
      go_enter Tryz.func10, Tryz.ntmps10
      go_wp2
      go_ret
      exact ⟨rfl, rfl⟩
/-- The first number that is not 0. -/
def fstI : List Int → Int
  | [] => 0
  | x :: l => if x = 0 then fstI l else x
theorem fstI_step {l : List Int} {k : Nat} {x : Int} (hx : l[k]? = some x) : fstI (l.drop k) = if x = 0 then fstI (l.drop (k + 1)) else x := by
  obtain ⟨h1, h2⟩ := List.getElem?_eq_some_iff.1 hx
  rw [List.drop_eq_getElem_cons h1, h2]
  rfl
theorem firstL_ok (l : List Int) (blk cap : Nat) (w : World) (hn : l.length ≤ 1000) (hc : ∀ (k : Nat) (x : Int), l[k]? = some x → w.cell? ⟨blk, k, none⟩ = some (.int .i64 x)) :
    Calls Tryz.prog 12 #[.slice (some ⟨blk, 0, none⟩) l.length cap] w fun e w' => e = .returned (.int .i64 (fstI l)) ∧ w' = w := by
  go_enter Tryz.func12, Tryz.ntmps12
  go_wp2
  go_loopw [3] (fun i wr => ∃ k : Nat, k ≤ l.length ∧ i = .int .i64 k ∧ wr = w ∧ fstI (l.drop k) = fstI l) (fun i _ => l.length - (intOf i).toNat)
  case atStart => exact ⟨0, Nat.zero_le _, rfl, rfl, rfl⟩
  case round =>
    obtain ⟨k, hk, rfl, rfl, hch⟩ := hrel
    rcases Nat.lt_or_eq_of_le hk with hkn | rfl
    · obtain ⟨x, hx⟩ : ∃ x, l[k]? = some x := ⟨_, List.getElem?_eq_getElem hkn⟩
      have r0 := hc k x hx
      rw [fstI_step hx] at hch
      by_cases h0 : x = 0
      · rw [if_pos h0] at hch
        have Hch := Lib.hid hch
        subst h0
        clear hc hch hx
        go_wp2
        exact ⟨⟨k + 1, hkn, (by first | rfl | trivial), (by first | rfl | trivial), Hch.out⟩, by simp [intOf]; omega⟩
      · rw [if_neg h0] at hch
        have Hch := Lib.hid hch
        have hne : (x != 0) = true := by simpa using h0
        clear hc hch hx h0
        go_wp2
        go_ret
        exact ⟨by rw [← Hch.out]; rfl, rfl⟩
    · have e : fstI l = 0 := by rw [← hch]; simp [fstI]
      have He := Lib.hid e
      clear hc hch e
      go_wp2
      go_ret
      exact ⟨by rw [He.out]; rfl, rfl⟩
/-- cells, where an error is wanted. -/
theorem cells_bad (A B : Option Addr) (ca cb m : Nat) (e : Int) (he : e ≠ 0) (w : World) :
    Calls Tryz.prog 20 #[.slice A 0 ca, .int .i64 e, .int .i64 e, .slice B m cb] w fun e w' => e = .returned (.bool true) ∧ w' = w := by
  have hne : (e != 0) = true := by simpa using he
  clear he
  go_enter Tryz.func20, Tryz.ntmps20
  go_wp2
  go_ret
  exact ⟨rfl, rfl⟩
/-- cells, where a set is wanted. -/
theorem cells_same (l : List Cel) (v u : Value) (w : World) (hl : Sl w v l) (hm : Sl w u l) (hn : l.length ≤ 4096) :
    Calls Tryz.prog 20 #[v, .int .i64 0, .int .i64 0, u] w fun e w' => e = .returned (.bool true) ∧ Below w.heap.size w w' := by
  have hs := sameSl l l v u w hl hm hn
  rw [decide_eq_true rfl] at hs
  go_enter Tryz.func20, Tryz.ntmps20
  go_wp2_with (go_at_call 59; refine hs.mono ?_; rintro e w' ⟨rfl, q, rfl⟩)
  go_ret
  exact ⟨rfl, ⟨rfl, rfl, rfl, Nat.le_refl _, fun _ _ => rfl⟩⟩
theorem gSorted_many (A : Option Addr) (n cap : Nat) (w : World) (hn : 4096 < n) :
    Calls Tryz.prog 14 #[.slice A n cap] w fun e w' => e = .returned (.tuple #[.slice none 0 0, .int .i64 5]) ∧ w' = w := by
  have hn' : (4096 : Int) < n := by omega
  clear hn
  go_enter Tryz.func14, Tryz.ntmps14
  go_wp2
  go_ret2
  exact ⟨rfl, rfl⟩
theorem gSorted_bad (l : List Cel) (v : Value) (w : World) (hl : Sl w v l) (hn : l.length ≤ 4096) (ho : outI l = 3) :
    Calls Tryz.prog 14 #[v] w fun e w' => e = .returned (.tuple #[.slice none 0 0, .int .i64 3]) ∧ Below w.heap.size w w' := by
  have hc := checkEachG l v w hl (by unfold maxLen; omega)
  rw [ho] at hc
  obtain ⟨A, cap, rfl⟩ := hl.form
  have hn' : ¬ (4096 : Int) < l.length := by omega
  clear hl ho hn
  go_enter Tryz.func14, Tryz.ntmps14
  go_wp2_with (go_at_call 79; refine hc.mono ?_; rintro e w' ⟨rfl, hB⟩)
  go_ret2
  exact ⟨rfl, hB⟩
theorem gSorted_ok (l : List Cel) (v : Value) (w : World) (hl : Sl w v l) (hn : l.length ≤ 4096) (ho : outI l = 0) :
    Calls Tryz.prog 14 #[v] w fun e w' => ∃ B out, e = .returned (.tuple #[.slice (some ⟨B, 0, none⟩) out.length out.length, .int .i64 0]) ∧ w.heap.size ≤ B ∧ Filled w' B out.length 38 out ∧ Up out ∧ (∀ c, c ∈ out ↔ c ∈ l) ∧ Below w.heap.size w w' := by
  have hc := checkEachG l v w hl (by unfold maxLen; omega)
  rw [ho] at hc
  have hs := fun W (h : Below w.heap.size w W) => sortedG l v W (hl.below h) (by omega)
  obtain ⟨A, cap, rfl⟩ := hl.form
  have hn' : ¬ (4096 : Int) < l.length := by omega
  clear hl ho hn
  go_enter Tryz.func14, Tryz.ntmps14
  go_wp2_with fail
  refine hc.mono ?_
  rintro e w2 ⟨rfl, hB2⟩
  have hs2 := hs w2 hB2
  clear hc hs
  go_wp2_with (go_at_call 80; refine hs2.mono ?_; rintro e w3 ⟨B, out, rfl, hBB, hF, hup, hmem, hB3⟩)
  go_ret2
  exact ⟨B, out, rfl, Nat.le_trans hB2.size hBB, hF, hup, hmem, hB2.trans (hB3.mono hB2.size)⟩
end Go.Proofs
end

section
/- A set's slice, and calls that give one. -/
namespace Go.Proofs
open Go.RowKit
set_option maxHeartbeats 8000000
set_option maxRecDepth 1000000
/-- A set's slice: what it reads as, and a capacity that Go allows. -/
def St (W : World) (v : Value) (l : List Cel) : Prop := Sl W v l ∧ ∃ (A : Option Addr) (cap : Nat), v = .slice A l.length cap ∧ l.length ≤ cap ∧ cap ≤ 9223372036854775807
theorem St.below {w w' : World} {v : Value} {l : List Cel} (h : St w v l) (hb : Below w.heap.size w w') : St w' v l := ⟨h.1.below hb, h.2⟩
/-- A call gives a set and no error, and keeps what was there. -/
def Gives (W : World) (X : List Cel) (e : Ending) (W' : World) : Prop := ∃ (A : Option Addr) (cap : Nat), e = .returned (.tuple #[.slice A X.length cap, .int .i64 0]) ∧ St W' (.slice A X.length cap) X ∧ Below W.heap.size W W'
theorem St.of_own {w : World} {B : Nat} {v : Value} {l : List Cel} (h : Own w B v l) : St w v l := by
  refine ⟨h.sl, ?_⟩
  rcases h.2 with ⟨rfl, h2⟩ | ⟨g, cap, cur, rfl, _, _, h3, h4, _⟩
  · exact ⟨none, 0, by rw [h2], by omega, by omega⟩
  · unfold maxLen at h4
    exact ⟨_, cap, rfl, h3, by omega⟩
theorem St.of_filled {w : World} {B n : Nat} {l : List Cel} (h : Filled w B n 38 l) (hn : l.length = n) (hl : n ≤ 4096) : St w (.slice (some ⟨B, 0, none⟩) n n) l := by
  subst hn
  exact ⟨Sl.row h.row h.lt, _, _, rfl, Nat.le_refl _, by omega⟩
theorem gives_own {W W' : World} {X : List Cel} {v : Value} (h : Own W' W.heap.size v X) (hB : Below W.heap.size W W') : Gives W X (.returned (.tuple #[v, .int .i64 0])) W' := by
  have hs := St.of_own h
  obtain ⟨A, cap, rfl⟩ := h.sl.form
  exact ⟨A, cap, rfl, hs, hB⟩
end Go.Proofs
end

section
/- Small functions of chapter 1's statements, in the forms that the walks ask. -/
namespace Go.Proofs
open Go.RowKit
set_option maxHeartbeats 16000000
set_option maxRecDepth 1000000
theorem fst_or (a b : Int) : fstI [a, b] = orI a b 0 := by
  unfold orI
  simp only [fstI]
  by_cases h1 : a = 0 <;> by_cases h2 : b = 0 <;> simp [h1, h2]
theorem firstL2 (a b : Int) (blk cap : Nat) (w : World) (h0 : w.cell? ⟨blk, 0, none⟩ = some (.int .i64 a)) (h1 : w.cell? ⟨blk, 1, none⟩ = some (.int .i64 b)) :
    Calls Tryz.prog 12 #[.slice (some ⟨blk, 0, none⟩) 2 cap] w fun e w' => e = .returned (.int .i64 (fstI [a, b])) ∧ w' = w :=
  firstL_ok [a, b] blk cap w (by simp) fun k x hk => by
    match k, hk with
    | 0, hk => simp at hk; subst hk; exact h0
    | 1, hk => simp at hk; subst hk; exact h1
    | k + 2, hk => simp at hk
/-- What awake says, from any world behind the first one. -/
def AwakeAt (w : World) : Prop := ∀ W, Below w.heap.size w W → Calls Tryz.prog 9 #[] W fun e w' => e = .returned (.bool true) ∧ Below W.heap.size W w'
theorem short_true {n : Nat} {m : Int} (h : shortB n m = true) (A : Option Addr) (cap : Nat) (w : World) : Calls Tryz.prog 10 #[.slice A n cap, .int .i64 m] w fun e w' => e = .returned (.bool true) ∧ w' = w := by
  have := short_ok A n cap m w
  rwa [h] at this
theorem short_false {n : Nat} {m : Int} (h : shortB n m = false) (A : Option Addr) (cap : Nat) (w : World) : Calls Tryz.prog 10 #[.slice A n cap, .int .i64 m] w fun e w' => e = .returned (.bool false) ∧ w' = w := by
  have := short_ok A n cap m w
  rwa [h] at this
theorem short_len {n : Nat} {m : Int} (h : shortB n m = true) (hm : m ≤ 4096) : n ≤ 4098 ∧ (n ≤ 4096 → (n : Int) ≤ m) := by
  unfold shortB at h
  simp only [Bool.or_eq_true, Bool.and_eq_true, decide_eq_true_eq] at h
  omega
end Go.Proofs
end
